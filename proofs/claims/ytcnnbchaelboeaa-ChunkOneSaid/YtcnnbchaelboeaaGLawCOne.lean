/-
  The law ChunkOne.
-/
import Derived.Test.YtcnnbchaelboeaaGLawCOf
import Derived.BigQuiet
namespace Go.Proofs.Ytcnnbchaelboeaa.Ck
set_option linter.unusedVariables false
set_option linter.unusedSimpArgs false
open Go.RowKit
open T
open Mt (Pr fnd Rt right right_iff)
open N (PrIn PrIn.below prCells prCells_snoc pr_own infoPair)
open V (drawn_below)
open I (alloc1)

/-- What the law asks of chunks, one of the others matched line by line. -/
structure OneF (o n : Nat) (a : Int) (l : List Ck) : Prop where
  all : ∀ i (hi : i < l.length), l[i].o = l[i].b ∧ l[i].on = l[i].bn
  sum : sumst l = (n : Int)
theorem oneF {p : List Pr} {o : Nat} {a : Int} (hp : Rt p o a) (ho : o ≤ 400) (ha : 0 ≤ a ∧ a ≤ 400) : OneF o p.length a (chunks p (idp o) o a o) ∧ err p (idp o) o a o = 0 := by
  have hc : can p (idp o) o a o := ⟨⟨⟨by omega, by omega⟩, ha, ⟨by omega, by omega⟩⟩, right_iff.2 hp, right_iff.2 (idp_rt o)⟩
  have e : chunks p (idp o) o a o = walk p (idp o) ((o : Int), a, (o : Int)) (0, 0, 0) := if_pos hc
  have hl : Le3 (0, 0, 0) ((o : Int), a, (o : Int)) := ⟨hc.1.1.1, hc.1.2.1.1, hc.1.2.2.1⟩
  have h1 := walk_one hp hl ⟨rfl, fun m hm _ => (sh_bound (e := ((o : Int), a, (o : Int))) hp (idp_rt o) hm).2.1.1⟩
  rw [e]
  refine ⟨⟨fun i hi => h1.1 _ (List.getElem_mem hi), ?_⟩, if_pos hc⟩
  rw [h1.2]
  have h2 : shd p (idp o) (0 : Int) = sh p (idp o) := List.filter_eq_self.2 fun m hm => decide_eq_true (sh_bound (e := ((o : Int), a, (o : Int))) hp (idp_rt o) hm).1.1
  show ((shd p (idp o) (0 : Int)).length : Int) = (p.length : Int)
  rw [h2, sh_all (a := a) (fun z hz => by have := hp.all z hz; omega)]
theorem wrap_add (S x : Int) : IntKind.i64.wrap (IntKind.i64.wrap S + x) = IntKind.i64.wrap (S + x) := by
  rw [IntKind.wrap_i64, IntKind.wrap_i64, IntKind.wrap_i64]; omega
theorem wrap_add2 (S x : Int) : wrap64 (wrap64 S + x) = IntKind.i64.wrap (S + x) := by
  unfold wrap64
  rw [IntKind.wrap_i64]; omega
theorem sumst_snoc : ∀ (l : List Ck) (c : Ck), sumst (l ++ [c]) = sumst l + if c.st = true then c.on else 0
  | [], c => by simp [sumst]
  | x :: r, c => by rw [List.cons_append, sumst, sumst, sumst_snoc r c]; omega
theorem sumst_take {l : List Ck} {k : Nat} (h : k < l.length) : sumst (l.take (k + 1)) = sumst (l.take k) + if l[k].st = true then l[k].on else 0 := by
  rw [← sumst_snoc, List.take_append_getElem h]

set_option maxRecDepth 100000 in
set_option maxHeartbeats 4000000 in
theorem cone_bad {A : Option Addr} {c0 n0 : Nat} {p : List Pr} {o a : Int} (w : World) (hh : ¬ (right p o a = true ∧ 0 ≤ o ∧ 0 ≤ a)) (ho : -128 ≤ o ∧ o ≤ 127) (ha : -128 ≤ a ∧ a ≤ 127)
    (HF0 : Hid (∀ W, Calls Try.prog 9 #[.slice A n0 c0] W fun e w' => e = .returned (.slice A p.length c0) ∧ w' = W))
    (hP : PrIn w A p) (hp : p.length ≤ 40) :
    Calls Try.prog 8 #[.slice A n0 c0, .int .i8 o, .int .i8 a] w fun e w' => e = .returned (.bool true) ∧ Below w.heap.size w w' := by
  have HRR := Lib.hid (Mt.rright_any A c0 p o a w hP (by unfold maxLen; omega))
  have hco : IntKind.i64.wrap o = o := by rw [IntKind.wrap_i64]; omega
  have hca : IntKind.i64.wrap a = a := by rw [IntKind.wrap_i64]; omega
  clear hP
  cases hr : right p o a with
  | false =>
    rw [hr] at HRR
    clear hr hh
    go_enter Try.func8, Try.ntmps8
    go_wp2_with fail
    with_reducible refine (HF0.out _).mono ?_
    rintro e w1 ⟨rfl, rfl⟩
    go_wp2_with fail
    with_reducible refine HRR.out.mono ?_
    rintro e w2 ⟨rfl, hb2⟩
    go_wp2_with fail
    with_reducible refine (live13.at w2).mono ?_
    rintro e w3 ⟨rfl, hb3⟩
    go_wp2_with fail
    go_ret
    exact ⟨rfl, hb2.trans (hb3.mono hb2.size)⟩
  | true =>
    have hh2 : o < 0 ∨ (¬ o < 0 ∧ a < 0) := by
      by_cases h : o < 0
      · exact .inl h
      · exact .inr ⟨h, by
          by_cases h2 : a < 0
          · exact h2
          · exact (hh ⟨hr, by omega, by omega⟩).elim⟩
    rw [hr] at HRR
    clear hr hh
    rcases hh2 with h0 | ⟨h0, h1⟩
    · go_enter Try.func8, Try.ntmps8
      go_wp2_with fail
      with_reducible refine (HF0.out _).mono ?_
      rintro e w1 ⟨rfl, rfl⟩
      go_wp2_with fail
      with_reducible refine HRR.out.mono ?_
      rintro e w2 ⟨rfl, hb2⟩
      go_wp2_with fail
      with_reducible refine (live13.at w2).mono ?_
      rintro e w3 ⟨rfl, hb3⟩
      go_wp2_with fail
      go_ret
      exact ⟨rfl, hb2.trans (hb3.mono hb2.size)⟩
    · go_enter Try.func8, Try.ntmps8
      go_wp2_with fail
      with_reducible refine (HF0.out _).mono ?_
      rintro e w1 ⟨rfl, rfl⟩
      go_wp2_with fail
      with_reducible refine HRR.out.mono ?_
      rintro e w2 ⟨rfl, hb2⟩
      go_wp2_with fail
      with_reducible refine (live13.at w2).mono ?_
      rintro e w3 ⟨rfl, hb3⟩
      go_wp2_with fail
      go_ret
      exact ⟨rfl, hb2.trans (hb3.mono hb2.size)⟩

set_option maxRecDepth 100000 in
set_option maxHeartbeats 4000000 in
theorem cone_walk {A : Option Addr} {c0 n0 o : Nat} {p : List Pr} {a : Int} {l : List Ck} (w : World) (ho : o ≤ 127) (ha : 0 ≤ a ∧ a ≤ 127)
    (HF0 : Hid (∀ W, Calls Try.prog 9 #[.slice A n0 c0] W fun e w' => e = .returned (.slice A p.length c0) ∧ w' = W))
    (hP : PrIn w A p) (hp : p.length ≤ 40) (hr : right p o a = true) (hl : l.length ≤ 1200) (HO : Hid (OfC 10 p (idp o) o a o l 0)) (HL : Hid (OneF o p.length a l)) :
    Calls Try.prog 8 #[.slice A n0 c0, .int .i8 o, .int .i8 a] w fun e w' => e = .returned (.bool true) ∧ Below w.heap.size w w' := by
  obtain ⟨i0, hi0, hz0, hz1, hz2⟩ := info_parts infoPair
  have HRR := Lib.hid (Mt.rright_any A c0 p o a w hP (by unfold maxLen; omega))
  rw [hr] at HRR
  have hco : IntKind.i64.wrap (o : Int) = (o : Int) := by rw [IntKind.wrap_i64]; omega
  have hca : IntKind.i64.wrap a = a := by rw [IntKind.wrap_i64]; omega
  have h0 : ¬ (o : Int) < 0 := by omega
  have h1 : ¬ a < 0 := by omega
  have HP := Lib.hid hP
  clear hP hr
  go_enter Try.func8, Try.ntmps8
  go_wp2_with fail
  with_reducible refine (HF0.out _).mono ?_
  rintro e w1 ⟨rfl, rfl⟩
  go_wp2_with fail
  with_reducible refine HRR.out.mono ?_
  rintro e w2 ⟨rfl, hb2⟩
  have HB2 := Lib.hid hb2
  replace HP := Lib.hid (HP.out.below hb2)
  clear hb2 HRR HF0
  go_wp2_with fail
  go_loopg [7, 8] o (fun m v i wr => ∃ k : Nat, k ≤ o ∧ i = .int .i64 (k : Int) ∧ o - k ≤ m ∧ wr.ownsRow w2.heap.size 44 2 v k (prCells (idp k)) ∧ Below w2.heap.size w2 wr)
  case atStart => exact ⟨0, Nat.zero_le _, rfl, by omega, World.ownsRow_nil _ _ _ _, Below.refl _ _⟩
  case round =>
    obtain ⟨k, hk, rfl, hmm, hown, hbr⟩ := hrel
    obtain ⟨RA, rcap, rfl, -, -⟩ := own_form hown
    by_cases hlt : k < o
    · have h0k : (0 : Int) ≤ (k : Int) := by omega
      have hki : (k : Int) < (o : Int) := by omega
      have hsb := hbr.size
      have HOW := Lib.hid hown
      have HBR := Lib.hid hbr
      clear hown hbr
      go_wp2_with (at_builtin; refine wpList_append_own _ rfl _ _ 22 rfl w2.heap.size 44 i0 _ 2 16 Try.underlying22 hi0 hz0 hz1 hz2 rfl (by decide) _ k (prCells (idp k)) rfl (HOW.out.alloc _) ⟨_, 0, none⟩ 1 1 [.int .i64 k, .int .i64 k] rfl rfl (World.news_of_block (V.alloc_at _ (by first | rfl | simp))) (by intro u hu; simp at hu; rcases hu with rfl | rfl <;> rfl) (by unfold maxLen; omega) (by omega) (by first | omega | (simp; done) | (simp; omega)) ?_; intro v' w4 hown4 hg4 _)
      have hb4 := (HBR.out.trans ((alloc1 _ _).mono hsb)).grown hg4 (by first | omega | (simp; omega)) (own_base HOW.out)
      have ho4 : w4.ownsRow w2.heap.size 44 2 v' (k + 1) (prCells (idp (k + 1))) := by rw [idp, prCells_snoc]; exact hown4
      clear hown4 hg4
      go_wp2_with fail
      go_roundg (o - (k + 1))
      case rel => exact ⟨k + 1, by omega, by go_num, Nat.le_refl _, ho4, hb4⟩
      case measure => omega
    · obtain rfl : k = o := by omega
      have hq := pr_own (ps := idp k) (A := RA) (cap := rcap) (by rw [idp_len]; exact hown)
      have HQ := Lib.hid hq
      replace HP := Lib.hid (HP.out.below hbr)
      replace HB2 := Lib.hid (HB2.out.trans (hbr.mono HB2.out.size))
      have HOA := Lib.hid (HO.out.at c0 rcap HP.out HQ.out)
      rw [idp_len] at HOA
      clear hown hbr hq HO
      go_wp2_with fail
      with_reducible refine HOA.out.mono ?_
      rintro e w5 ⟨C1, k1, rfl, h1', hb5⟩
      have HB5 := Lib.hid (HB2.out.trans (hb5.mono HB2.out.size))
      have H1 := Lib.hid h1'
      clear hb5 HB2 h1' HOA HP HQ
      go_wp2_with fail
      go_loopg [6, 11, 12] l.length (fun mm x6 x11 x12 wr => ∃ k : Nat, k ≤ l.length ∧ x6 = .bool false ∧ x11 = .int .i64 (IntKind.i64.wrap (sumst (l.take k))) ∧ x12 = .int .i64 (k : Int) ∧ l.length - k ≤ mm ∧ Below w5.heap.size w5 wr)
      case atStart => exact ⟨0, Nat.zero_le _, rfl, rfl, rfl, by omega, Below.refl _ _⟩
      case round =>
        obtain ⟨k, hk, rfl, rfl, rfl, hm, hbr⟩ := hrel
        by_cases hlt : k < l.length
        · obtain ⟨b1, o1, hAe, hb1, hI1⟩ := H1.out (by omega)
          subst hAe
          obtain ⟨x0, x1, x2, x3, x4, x5, x6, hx⟩ : ∃ x0 x1 x2 x3 x4 x5 x6, l[k]'hlt = ⟨x0, x1, x2, x3, x4, x5, x6⟩ := ⟨_, _, _, _, _, _, _, rfl⟩
          have hal := HL.out.all k hlt
          have HS : Hid (sumst (l.take (k + 1)) = sumst (l.take k) + if x0 = true then x2 else 0) := Lib.hid (by rw [sumst_take hlt, hx])
          obtain ⟨d0, d1, d2, -, -, d5, d6⟩ := hI1 k hlt
          rw [hx] at hal d0 d1 d2 d5 d6
          simp only at hal d0 d1 d2 d5 d6
          obtain ⟨rfl, rfl⟩ := hal
          have g0 := (hbr.cell (p := ⟨b1, _, none⟩) hb1).trans d0
          have g1 := (hbr.cell (p := ⟨b1, _, none⟩) hb1).trans d1
          have g2 := (hbr.cell (p := ⟨b1, _, none⟩) hb1).trans d2
          have g5 := (hbr.cell (p := ⟨b1, _, none⟩) hb1).trans d5
          have g6 := (hbr.cell (p := ⟨b1, _, none⟩) hb1).trans d6
          have h0k : (0 : Int) ≤ (k : Int) := by omega
          have hki : (k : Int) < (l.length : Int) := by omega
          have hq1 : (x1 != x1) = false := by simp
          have hq2 : (x2 != x2) = false := by simp
          have HBR := Lib.hid hbr
          obtain ⟨S, hS⟩ : ∃ S, sumst (l.take k) = S := ⟨_, rfl⟩
          rw [hS] at HS ⊢
          clear d0 d1 d2 d5 d6 hI1 hb1 hbr hx hS
          cases x0 with
          | false =>
            go_wp2_with fail
            go_quiet (fail)
            go_wp2_with fail
            go_roundg (l.length - (k + 1))
            case rel => exact ⟨k + 1, hlt, rfl, by rw [HS.out, if_neg (by decide), Int.add_zero], by go_num, Nat.le_refl _, HBR.out.trans ((drawn_below _ _).mono HBR.out.size)⟩
            case measure => omega
          | true =>
            go_wp2_with fail
            go_quiet (fail)
            go_wp2_with fail
            go_roundg (l.length - (k + 1))
            case rel => exact ⟨k + 1, hlt, rfl, by rw [HS.out, if_pos trivial]; exact congrArg (Value.int IntKind.i64) (wrap_add2 S x2), by go_num, Nat.le_refl _, HBR.out.trans ((drawn_below _ _).mono HBR.out.size)⟩
            case measure => omega
        · obtain rfl : k = l.length := by omega
          have HBR := Lib.hid (HB5.out.trans (hbr.mono HB5.out.size))
          have hps : IntKind.i64.wrap (sumst (l.take l.length)) = (p.length : Int) := by rw [List.take_length, HL.out.sum, IntKind.wrap_i64]; omega
          have hpp : ((p.length : Int) == (p.length : Int)) = true := by simp
          rw [hps]
          clear hbr hps
          go_wp2_with fail
          with_reducible refine (live13.at wr).mono ?_
          rintro e w6 ⟨rfl, hb6⟩
          have HB6 := Lib.hid (HBR.out.trans (hb6.mono HBR.out.size))
          go_wp2_with fail
          go_ret
          exact ⟨by simp, HB6.out⟩
theorem cone_law {A : Option Addr} {c0 : Nat} {p : List Pr} {o a : Int} {w : World} (hP : PrIn w A p) (hp : p.length ≤ maxLen) (h0 : p.length ≤ c0) (ho : -128 ≤ o ∧ o ≤ 127) (ha : -128 ≤ a ∧ a ≤ 127) :
    Calls Try.prog 8 #[.slice A p.length c0, .int .i8 o, .int .i8 a] w fun e w' => e = .returned (.bool true) ∧ Below w.heap.size w w' := by
  have l1 := len40 p
  by_cases hc : right (p.take 40) o a = true ∧ 0 ≤ o ∧ 0 ≤ a
  · obtain ⟨hr, h1, h2⟩ := hc
    obtain ⟨n, rfl⟩ : ∃ n : Nat, o = n := ⟨o.toNat, by omega⟩
    have hf := oneF (right_iff.1 hr) (by omega) ⟨h2, by omega⟩
    have hof := c_of (p.take 40) (idp n) n a n (by omega) (by rw [idp_len]; omega)
    rw [hf.2] at hof
    exact cone_walk w (by omega) ⟨h2, ha.2⟩ (Lib.hid fun W => few_any A p c0 W hp h0) (pr_take hP 40) l1 hr (chunks_len _ _ _ _ _) (Lib.hid hof) (Lib.hid hf.1)
  · exact cone_bad w hc ho ha (Lib.hid fun W => few_any A p c0 W hp h0) (pr_take hP 40) l1
end Go.Proofs.Ytcnnbchaelboeaa.Ck
