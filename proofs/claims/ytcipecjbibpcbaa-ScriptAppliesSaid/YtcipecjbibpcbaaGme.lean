/-
  The contracts of myers' Distance and walk: what is told, step by step, to whoever keeps it.
-/
import Derived.Test.YtcipecjbibpcbaaGmd
import Derived.Outline
namespace Go.Proofs.Ytcipecjbibpcbaa.M
set_option linter.unusedVariables false
set_option linter.unusedSimpArgs false
open Go.RowKit
open T
open V (IntsIn numCells numCells_snoc ints_own drawn_below)
open I (alloc1 own_at own_below)

theorem D_all (a b : List Int) : D a b 0 0 = ed a b := rfl
theorem quiet_add_left {P : Program} {f : FuncId} {args : Array Value} {w : World} {a n : Nat} {v : Value}
    (h : Calls P f args (w.drewN (a + n)) fun e w' => e = .returned v ∧ w.drewN (a + n) = w') :
    Calls P f args (w.drewN (a + n)) fun e w'' => e = .returned v ∧ ∃ m, w'' = w.drewN (a + m) :=
  h.mono fun _ _ ⟨he, hm⟩ => ⟨he, n, hm.symm⟩
theorem quiet_left {P : Program} {f : FuncId} {args : Array Value} {w : World} {n : Nat} {v : Value}
    (h : Calls P f args (w.drewN n) fun e w' => e = .returned v ∧ w.drewN n = w') : Calls P f args (w.drewN n) fun e w'' => e = .returned v ∧ ∃ m, w'' = w.drewN m :=
  h.mono fun _ _ ⟨he, hm⟩ => ⟨he, n, hm.symm⟩
/-- What lies below n0 stays, and every row of numbers and of rows of numbers. -/
def KpT (n0 : Nat) (W W' : World) : Prop := Below n0 W W' ∧ ∀ (k : Nat) (cs : Array Value) (t : TypeId), W.heap[k]? = some (.cells cs t (0, 0)) → (t = 3 ∨ t = 49) → W'.heap[k]? = W.heap[k]?
theorem KpT.of {n0 : Nat} {W W' : World} (h : Below W.heap.size W W') (hn : n0 ≤ W.heap.size) : KpT n0 W W' := ⟨h.mono hn, fun k cs t hk _ => h.block k (Array.getElem?_eq_some_iff.1 hk).1⟩
theorem RowsAt.keptT {w w' : World} {n0 : Nat} {a b : List Int} {G N : Nat} (h : RowsAt w a b G N) (hb : KpT n0 w w') : RowsAt w' a b G N := by
  obtain ⟨⟨cs, hc⟩, h⟩ := h
  have e := hb.2 G cs _ hc (.inr rfl)
  refine ⟨⟨cs, e.trans hc⟩, fun m hm => ?_⟩
  obtain ⟨g, xs, h1, h2, h3⟩ := h m hm
  exact ⟨g, xs, (World.cell?_of_block (a := ⟨G, m, none⟩) e).trans h1, (hb.2 g _ _ h2 (.inl rfl)).trans h2, h3⟩
/-- Numbers that lie below n0. -/
def IntsLow (w : World) (n0 : Nat) (A : Option Addr) (xs : List Int) : Prop := 0 < xs.length → ∃ bk off, A = some ⟨bk, off, none⟩ ∧ bk < n0 ∧ L.IntsAt w bk off xs
theorem IntsLow.kept {w w' : World} {n0 : Nat} {A : Option Addr} {xs : List Int} (h : IntsLow w n0 A xs) (hb : Below n0 w w') : IntsLow w' n0 A xs := fun hp => by
  obtain ⟨bk, off, e, hlt, hl⟩ := h hp
  exact ⟨bk, off, e, hlt, fun j hj => (hb.cell (p := ⟨bk, off + j, none⟩) hlt).trans (hl j hj)⟩
theorem IntsLow.ints {w : World} {n0 : Nat} {A : Option Addr} {xs : List Int} (h : IntsLow w n0 A xs) (hn : n0 ≤ w.heap.size) : IntsIn w A xs := fun hp => by
  obtain ⟨bk, off, e, hlt, hl⟩ := h hp
  exact ⟨bk, off, e, by omega, hl⟩
theorem told_cons (i j : Nat) (s : Int) (r : List Int) : told i j (s :: r) = (s, i, j) :: told (if s = 3 then i else i + 1) (if s = 2 then j else j + 1) r := rfl
/-- Whoever is told. -/
structure Told (fn : FuncId) (p : Value) (n0 : Nat) (J : List (Int × Nat × Nat) → World → Prop) : Prop where
  enters : ∀ (args : Array Value) (w : World), (callFunc fn args).run Try.prog w = .ok (.enter fn args) w
  keeps : ∀ l W W', J l W → Below W.heap.size W W' → J l W'
  tells : ∀ l (s : Int) (i j : Nat) W, J l W → n0 ≤ W.heap.size → l.length ≤ 800 → Calls Try.prog fn #[.int .i64 s, .int .i64 (i : Int), .int .i64 (j : Int), p] W fun e W' => e = .returned (.tuple #[]) ∧ J (l ++ [(s, i, j)]) W' ∧ KpT n0 W W'

theorem to_keep {a b : List Int} {i j : Nat} {l X : List (Int × Nat × Nat)} (h : X = l ++ told i j (Wy a b i j)) (hk : kept a b i j = true) : X = (l ++ [(1, i, j)]) ++ told (i + 1) (j + 1) (Wy a b (i + 1) (j + 1)) := by
  rw [h, (Wy_kept hk).1, told_cons, if_neg (by decide), if_neg (by decide)]; simp
theorem to_out {a b : List Int} {i j : Nat} {l X : List (Int × Nat × Nat)} (h : X = l ++ told i j (Wy a b i j)) (hk : kept a b i j = false) (ho : outs a b i j = true) : X = (l ++ [(2, i, j)]) ++ told (i + 1) j (Wy a b (i + 1) j) := by
  rw [h, (Wy_out hk ho).1, told_cons, if_neg (by decide), if_pos rfl]; simp
theorem to_in {a b : List Int} {i j : Nat} {l X : List (Int × Nat × Nat)} (h : X = l ++ told i j (Wy a b i j)) (hk : kept a b i j = false) (ho : outs a b i j = false) (hj : j < b.length) : X = (l ++ [(3, i, j)]) ++ told i (j + 1) (Wy a b i (j + 1)) := by
  rw [h, (Wy_in hk ho hj).1, told_cons, if_pos rfl, if_neg (by decide)]; simp

set_option maxRecDepth 100000 in
set_option maxHeartbeats 4000000 in
theorem walk_any (fn : FuncId) (p : Value) (n0 : Nat) (J : List (Int × Nat × Nat) → World → Prop) (HT : Told fn p n0 J) (A B : Option Addr) (a b : List Int) (c c' : Nat) (w : World) (hA : IntsLow w n0 A a) (hB : IntsLow w n0 B b) (ha : a.length ≤ 400) (hb : b.length ≤ 400) (hn0 : n0 ≤ w.heap.size) (h0 : J [] w) :
    Calls Try.prog 40 #[.slice A a.length c, .slice B b.length c', .func (.func fn) #[] #[p]] w fun e w' => e = .returned (.tuple #[]) ∧ J (told 0 0 (way a b)) w' ∧ Below n0 w w' := by
  have HA := Lib.hid hA
  have HB := Lib.hid hB
  have HJ0 := Lib.hid h0
  clear hA hB h0
  obtain ⟨la, hla⟩ : ∃ n, n = a.length := ⟨_, rfl⟩
  obtain ⟨lb, hlb⟩ : ∃ n, n = b.length := ⟨_, rfl⟩
  have HRE : Hid (Calls Try.prog 44 #[.slice A la c, .slice B lb c'] w (ReEnd w a b)) := Lib.hid (by rw [hla, hlb]; exact reach_any A B a b c c' w (HA.out.ints hn0) (HB.out.ints hn0) ha hb)
  rw [← hla] at ha ⊢
  rw [← hlb] at hb ⊢
  have HL := Lib.hid (And.intro hla hlb)
  clear hla hlb
  obtain ⟨N, hN⟩ : ∃ N, N = D a b 0 0 + 1 := ⟨_, rfl⟩
  have HN := Lib.hid hN
  have hN8 : N ≤ 801 := by have := ed_le a b; have := D_all a b; have := HL.out; omega
  clear hN
  have hent := HT.enters
  go_enter Try.func40, Try.ntmps40
  go_wp2_with fail
  with_reducible refine (long_no A B la lb c c' w ha hb).mono ?_
  rintro e w' ⟨rfl, rfl⟩
  go_wp2_with fail
  with_reducible refine (HRE.out).mono ?_
  rintro e w1 ⟨G, cap, rfl, hG, hra, hb1⟩
  rw [← HN.out] at hra ⊢
  have HR1 := Lib.hid hra
  have HB1 := Lib.hid hb1
  have HJ1 := Lib.hid (HT.keeps _ _ _ HJ0.out hb1)
  have hs1 := hb1.size
  clear hra hb1
  go_wp2_with fail
  go_loopg [7, 8, 9] (la + lb) (fun mm x7 x8 x9 wr => ∃ (d : Int) (i j : Nat) (l : List (Int × Nat × Nat)), x7 = .int .i64 d ∧ x8 = .int .i64 (i : Int) ∧ x9 = .int .i64 (j : Int) ∧ i ≤ la ∧ j ≤ lb ∧ (la - i) + (lb - j) ≤ mm ∧ 0 ≤ d ∧ d < N ∧ Hid (d = (D a b i j : Nat)) ∧ Hid (J l wr) ∧ Hid (l.length ≤ i + j) ∧ Hid (told 0 0 (way a b) = l ++ told i j (Wy a b i j)) ∧ Hid (RowsAt wr a b G N) ∧ Hid (Below n0 w wr) ∧ Hid (n0 ≤ wr.heap.size))
  case atStart =>
    exact ⟨_, 0, 0, [], rfl, rfl, rfl, Nat.zero_le _, Nat.zero_le _, by omega, by have := HN.out; omega, by omega, Lib.hid (by have := HN.out; omega), HJ1, Lib.hid (Nat.le_refl _), Lib.hid rfl, HR1, Lib.hid (HB1.out.mono hn0), Lib.hid (by omega)⟩
  case round =>
    obtain ⟨d, i, j, l, rfl, rfl, rfl, hi, hj, hmm, hd0, hdN, HD, HJ, HLL, HTO, HR, HB2, HS⟩ := hrel
    have HSQ : Hid (∀ q, n0 ≤ (wr.drewN q).heap.size) := Lib.hid (fun q => by simpa using HS.out)
    by_cases hg : i < la ∨ j < lb
    · have HG := Lib.hid hg
      clear hg
      by_cases hk : kept a b i j = true
      · obtain ⟨hia', hjb', hx⟩ := kept_yes hk
        have HK := Lib.hid hk
        clear hk
        have hia : i < la := by have := HL.out; omega
        have hjb : j < lb := by have := HL.out; omega
        obtain ⟨bk, off, hAe, hbk, hI⟩ := (HA.out.kept HB2.out) (by omega)
        obtain ⟨bk', off', hBe, hbk', hI'⟩ := (HB.out.kept HB2.out) (by omega)
        subst hAe hBe
        have c0 := hI i hia'
        have d0 := hI' j hjb'
        rw [hx] at c0
        generalize b[j] = y at c0 d0
        clear hx hI hI' hia' hjb'
        have k0 : (0 : Int) ≤ (i : Int) := by omega
        have k1 : (i : Int) < (la : Int) := by omega
        have k2 : (0 : Int) ≤ (j : Int) := by omega
        have k3 : (j : Int) < (lb : Int) := by omega
        go_wp2_with fail
        go_quiet (fail)
        go_wp2_with fail
        with_reducible refine (HT.tells l 1 i j _ (HT.keeps _ _ _ HJ.out (drawn_below _ _)) (HSQ.out _) (by have := HLL.out; omega)).mono ?_
        rintro e w2 ⟨rfl, hJ2, hk2⟩
        have HJ2 := Lib.hid hJ2
        have HK2 := Lib.hid hk2
        clear hJ2 hk2
        go_wp2_with fail
        go_roundg ((la - (i + 1)) + (lb - (j + 1)))
        case measure => omega
        case rel => exact ⟨d, i + 1, j + 1, l ++ [(1, i, j)], rfl, by go_num, by go_num, by omega, by omega, Nat.le_refl _, hd0, hdN, Lib.hid (by rw [HD.out, (Wy_kept HK.out).2]), HJ2, Lib.hid (by have := HLL.out; simp; omega), Lib.hid (to_keep HTO.out HK.out), Lib.hid ((HR.out.kept (drawn_below _ _)).keptT HK2.out), Lib.hid (HB2.out.trans (((drawn_below wr _).mono HS.out).trans HK2.out.1)), Lib.hid (Nat.le_trans (HSQ.out _) HK2.out.1.size)⟩
      · have hk : kept a b i j = false := by simpa using hk
        have HK := Lib.hid hk
        have HDP := Lib.hid (left_pos hk (by have := HG.out; have := HL.out; omega))
        obtain ⟨m, hm⟩ : ∃ m : Nat, (m : Int) = d - 1 := ⟨(d - 1).toNat, by have := HD.out; have := HDP.out; omega⟩
        have HM := Lib.hid hm
        have hd1 : 1 ≤ d := by omega
        have hm0 : (0 : Int) ≤ (m : Int) := by omega
        have hm1 : (m : Int) < (N : Int) := by omega
        have HDM : Hid (D a b i j = m + 1) := Lib.hid (by have := HD.out; omega)
        clear hm
        by_cases hia : i < la
        · have HHO : Hid (∃ (g : Nat) (xs : List Int), wr.cell? ⟨G, m, none⟩ = some (rowV (a.length + b.length + 3) g) ∧ Row wr g xs ∧ Ro a b m xs) := Lib.hid (HR.out.2 m (by omega))
          obtain ⟨g, xs, r0, r1, r2⟩ := HHO.out
          obtain ⟨sp, hsp⟩ : ∃ s : Nat, s = i + 1 + b.length + 1 - j := ⟨_, rfl⟩
          have HSP := Lib.hid hsp
          have hspl : sp < xs.length := by rw [r2.len]; have := HL.out; omega
          have r3 := r1.cellD hspl
          have HO := Lib.hid (outs_is (i := i) (j := j) (by have := HL.out; omega) (by have := HL.out; omega) HDM.out r2)
          rw [← hsp] at HO
          obtain ⟨z, hz⟩ : ∃ z, z = xs.getD sp 0 := ⟨_, rfl⟩
          rw [← hz] at HO r3
          obtain ⟨L, hL⟩ : ∃ L, L = a.length + b.length + 3 := ⟨_, rfl⟩
          rw [← hL] at r0
          have hsl : (sp : Int) < (L : Int) := by have := r2.len; omega
          simp only [rowV] at r0
          have HLL2 := Lib.hid hL
          clear hsp hspl hz hL r1 r2 hk HHO
          have s0 : (0 : Int) ≤ (sp : Int) := by omega
          have w1 : IntKind.i64.wrap (d - 1) = (m : Int) := by rw [IntKind.wrap_i64]; have := HM.out; omega
          have w2 : IntKind.i64.wrap ((i : Int) + 1) = (i : Int) + 1 := by rw [IntKind.wrap_i64]; omega
          have HSPOT : Hid (∀ w : World, Calls Try.prog 45 #[.slice B lb c', .int .i64 ((i : Int) + 1), .int .i64 (j : Int)] w fun e w' => e = .returned (.int .i64 (sp : Int)) ∧ w = w') := Lib.hid (fun w => spot_any B lb c' _ _ _ w (by have := HSP.out; have := HL.out; omega) (by omega) (by omega) (by omega) (by omega) (by omega))
          have k0 : (0 : Int) ≤ (i : Int) := by omega
          have k1 : (i : Int) < (la : Int) := by omega
          have k2 : (0 : Int) ≤ (j : Int) := by omega
          by_cases hjb : j < lb
          · -- both go on
            have hia' : i < a.length := by have := HL.out; omega
            have hjb' : j < b.length := by have := HL.out; omega
            have hne0 := kept_no HK.out hia' hjb'
            obtain ⟨bk, off, hAe, hbk, hI⟩ := (HA.out.kept HB2.out) (by omega)
            obtain ⟨bk', off', hBe, hbk', hI'⟩ := (HB.out.kept HB2.out) (by omega)
            subst hAe hBe
            have c0 := hI i hia'
            have d0 := hI' j hjb'
            have hne : (a[i] == b[j]) = false := beq_eq_false_iff_ne.2 hne0
            clear hne0
            generalize a[i] = x at c0 hne
            generalize b[j] = y at d0 hne
            clear hI hI' hia' hjb'
            have k3 : (j : Int) < (lb : Int) := by omega
            by_cases ho : outs a b i j = true
            · have hzz : z ≤ (i : Int) + 1 := by have h := HO.out; rw [ho] at h; exact of_decide_eq_true h.symm
              have HOO := Lib.hid ho
              clear ho
              go_wp2_with fail
              go_quiet (fail)
              go_wp2_with fail
              go_quiet ((go_at_call 45; first | exact quiet_add_left (HSPOT.out _) | exact quiet_left (HSPOT.out _)))
              try clear w1 w2
              go_wp2_with fail
              with_reducible refine (HT.tells l 2 i j _ (HT.keeps _ _ _ HJ.out (by first | exact drawn_below _ _ | exact below_drewN (drawn_below _ _) _)) (by first | exact HSQ.out _ | (simpa using HS.out)) (by have := HLL.out; omega)).mono ?_
              rintro e w2 ⟨rfl, hJ2, hk2⟩
              have HJ2 := Lib.hid hJ2
              have HK2 := Lib.hid hk2
              clear hJ2 hk2
              go_wp2_with fail
              go_roundg ((la - (i + 1)) + (lb - j))
              case measure => omega
              case rel => exact ⟨d - 1, i + 1, j, l ++ [(2, i, j)], rfl, by go_num, rfl, by omega, by omega, Nat.le_refl _, by omega, by omega, Lib.hid (by have := HD.out; have := (Wy_out HK.out HOO.out).2; omega), HJ2, Lib.hid (by have := HLL.out; simp; omega), Lib.hid (to_out HTO.out HK.out HOO.out), Lib.hid ((HR.out.kept (by first | exact drawn_below _ _ | exact below_drewN (drawn_below _ _) _)).keptT HK2.out), Lib.hid (HB2.out.trans (((show Below wr.heap.size wr _ by first | exact drawn_below _ _ | exact below_drewN (drawn_below _ _) _).mono HS.out).trans HK2.out.1)), Lib.hid (Nat.le_trans (by first | exact HSQ.out _ | (simpa using HS.out)) HK2.out.1.size)⟩
            · have ho : outs a b i j = false := by simpa using ho
              have hzz : decide (z ≤ (i : Int) + 1) = false := by have h := HO.out; rw [ho] at h; exact h.symm
              have HOO := Lib.hid ho
              clear ho
              go_wp2_with fail
              go_quiet (fail)
              go_wp2_with fail
              go_quiet ((go_at_call 45; first | exact quiet_add_left (HSPOT.out _) | exact quiet_left (HSPOT.out _)))
              try clear w1 w2
              go_wp2_with fail
              with_reducible refine (HT.tells l 3 i j _ (HT.keeps _ _ _ HJ.out (by first | exact drawn_below _ _ | exact below_drewN (drawn_below _ _) _)) (by first | exact HSQ.out _ | (simpa using HS.out)) (by have := HLL.out; omega)).mono ?_
              rintro e w2 ⟨rfl, hJ2, hk2⟩
              have HJ2 := Lib.hid hJ2
              have HK2 := Lib.hid hk2
              clear hJ2 hk2
              go_wp2_with fail
              go_roundg ((la - i) + (lb - (j + 1)))
              case measure => omega
              case rel => exact ⟨d - 1, i, j + 1, l ++ [(3, i, j)], rfl, rfl, by go_num, by omega, by omega, Nat.le_refl _, by omega, by omega, Lib.hid (by have := HD.out; have := (Wy_in HK.out HOO.out (by have := HL.out; omega)).2; omega), HJ2, Lib.hid (by have := HLL.out; simp; omega), Lib.hid (to_in HTO.out HK.out HOO.out (by have := HL.out; omega)), Lib.hid ((HR.out.kept (by first | exact drawn_below _ _ | exact below_drewN (drawn_below _ _) _)).keptT HK2.out), Lib.hid (HB2.out.trans (((show Below wr.heap.size wr _ by first | exact drawn_below _ _ | exact below_drewN (drawn_below _ _) _).mono HS.out).trans HK2.out.1)), Lib.hid (Nat.le_trans (by first | exact HSQ.out _ | (simpa using HS.out)) HK2.out.1.size)⟩
          · have hjd : decide (j < lb) = false := decide_eq_false hjb
            have ho : outs a b i j = true := by
              rcases Bool.eq_false_or_eq_true (outs a b i j) with h | h
              · exact h
              · have := in_ends h (by have := HG.out; have := HL.out; omega); have := HL.out; omega
            have hzz : z ≤ (i : Int) + 1 := by have h := HO.out; rw [ho] at h; exact of_decide_eq_true h.symm
            have HOO := Lib.hid ho
            clear ho
            go_wp2_with fail
            go_quiet (fail)
            go_wp2_with fail
            go_quiet ((go_at_call 45; first | exact quiet_add_left (HSPOT.out _) | exact quiet_left (HSPOT.out _)))
            try clear w1 w2
            go_wp2_with fail
            with_reducible refine (HT.tells l 2 i j _ (HT.keeps _ _ _ HJ.out (by first | exact drawn_below _ _ | exact below_drewN (drawn_below _ _) _)) (by first | exact HSQ.out _ | (simpa using HS.out)) (by have := HLL.out; omega)).mono ?_
            rintro e w2 ⟨rfl, hJ2, hk2⟩
            have HJ2 := Lib.hid hJ2
            have HK2 := Lib.hid hk2
            clear hJ2 hk2
            go_wp2_with fail
            go_roundg ((la - (i + 1)) + (lb - j))
            case measure => omega
            case rel => exact ⟨d - 1, i + 1, j, l ++ [(2, i, j)], rfl, by go_num, rfl, by omega, by omega, Nat.le_refl _, by omega, by omega, Lib.hid (by have := HD.out; have := (Wy_out HK.out HOO.out).2; omega), HJ2, Lib.hid (by have := HLL.out; simp; omega), Lib.hid (to_out HTO.out HK.out HOO.out), Lib.hid ((HR.out.kept (by first | exact drawn_below _ _ | exact below_drewN (drawn_below _ _) _)).keptT HK2.out), Lib.hid (HB2.out.trans (((show Below wr.heap.size wr _ by first | exact drawn_below _ _ | exact below_drewN (drawn_below _ _) _).mono HS.out).trans HK2.out.1)), Lib.hid (Nat.le_trans (by first | exact HSQ.out _ | (simpa using HS.out)) HK2.out.1.size)⟩
        · have hid : decide (i < la) = false := decide_eq_false hia
          have ho : outs a b i j = false := by
            rcases Bool.eq_false_or_eq_true (outs a b i j) with h | h
            · have := (of_decide_eq_true h).1; have := HL.out; omega
            · exact h
          have HOO := Lib.hid ho
          have hjb : j < lb := by have := HG.out; omega
          clear ho hk
          go_wp2_with fail
          go_quiet (fail)
          go_wp2_with fail
          go_quiet (fail)
          try clear w1 w2
          go_wp2_with fail
          with_reducible refine (HT.tells l 3 i j _ (HT.keeps _ _ _ HJ.out (by first | exact drawn_below _ _ | exact below_drewN (drawn_below _ _) _)) (by first | exact HSQ.out _ | (simpa using HS.out)) (by have := HLL.out; omega)).mono ?_
          rintro e w2 ⟨rfl, hJ2, hk2⟩
          have HJ2 := Lib.hid hJ2
          have HK2 := Lib.hid hk2
          clear hJ2 hk2
          go_wp2_with fail
          go_roundg ((la - i) + (lb - (j + 1)))
          case measure => omega
          case rel => exact ⟨d - 1, i, j + 1, l ++ [(3, i, j)], rfl, rfl, by go_num, by omega, by omega, Nat.le_refl _, by omega, by omega, Lib.hid (by have := HD.out; have := (Wy_in HK.out HOO.out (by have := HL.out; omega)).2; omega), HJ2, Lib.hid (by have := HLL.out; simp; omega), Lib.hid (to_in HTO.out HK.out HOO.out (by have := HL.out; omega)), Lib.hid ((HR.out.kept (by first | exact drawn_below _ _ | exact below_drewN (drawn_below _ _) _)).keptT HK2.out), Lib.hid (HB2.out.trans (((show Below wr.heap.size wr _ by first | exact drawn_below _ _ | exact below_drewN (drawn_below _ _) _).mono HS.out).trans HK2.out.1)), Lib.hid (Nat.le_trans (by first | exact HSQ.out _ | (simpa using HS.out)) HK2.out.1.size)⟩
    · have he : la ≤ i ∧ lb ≤ j := by omega
      have HT2 : Hid (told 0 0 (way a b) = l) := Lib.hid (by have h := HTO.out; rw [Wy_end (by have := HL.out; omega) (by have := HL.out; omega)] at h; simpa [told] using h)
      obtain ⟨he1, he2⟩ := he
      clear hg
      go_wp2_with fail
      go_end0
      exact ⟨rfl, by rw [HT2.out]; exact HJ.out, HB2.out⟩
end Go.Proofs.Ytcipecjbibpcbaa.M
