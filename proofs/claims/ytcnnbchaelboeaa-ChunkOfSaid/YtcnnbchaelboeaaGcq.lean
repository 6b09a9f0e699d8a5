/-
  The contracts of the reference's Run and Next.
-/
import Derived.Test.YtcnnbchaelboeaaGch
namespace Go.Proofs.Ytcnnbchaelboeaa.Ck
set_option linter.unusedVariables false
set_option linter.unusedSimpArgs false
open Go.RowKit Go.Shelf
open T
open Mt (Pr fnd Rt right rto_any toV)
open N (PrIn PrIn.below)
open V (drawn_below grown_of)
open I (alloc1)

theorem rto_at (A : Option Addr) (cap : Nat) (ps : List Pr) (i : Int) (w : World) (hA : PrIn w A ps) (hl : ps.length ≤ 1000) :
    Calls Try.prog 21 #[.slice A ps.length cap, .int .i64 i] w fun e w' => e = .returned (.tuple #[.int .i64 ((fnd ps i).getD 0), .bool (fnd ps i).isSome]) ∧ w' = w := rto_any A cap ps i w hA (by unfold maxLen; omega)

set_option maxRecDepth 100000 in
set_option maxHeartbeats 4000000 in
theorem rrun_any (A B : Option Addr) (ca cb : Nat) (p q : List Pr) (n m l : Int) (c : Ck) (w : World) (hp : Rt p n m) (hq : Rt q n l) (hpl : p.length ≤ 1000) (hql : q.length ≤ 1000) (hc : Okt (c.o, c.a, c.b)) (hA : PrIn w A p) (hB : PrIn w B q) :
    Calls Try.prog 18 #[.slice A p.length ca, .slice B q.length cb, ckV c] w fun e w' => e = .returned (.int .i64 (run p q (c.o, c.a, c.b) : Nat)) ∧ Below w.heap.size w w' := by
  obtain ⟨cst, co, con, cca, can, ccb, cbn⟩ := c
  obtain ⟨⟨hc0, hc0'⟩, ⟨hc1, hc1'⟩, ⟨hc2, hc2'⟩⟩ := hc
  simp only at hc0 hc0' hc1 hc1' hc2 hc2'
  simp only [ckV]
  obtain ⟨W0, hW0⟩ : ∃ W : World, W = w.alloc (.cells #[.bool cst, .int .i64 co, .int .i64 con, .int .i64 cca, .int .i64 can, .int .i64 ccb, .int .i64 cbn] 35) := ⟨_, rfl⟩
  have HB0 := Lib.hid (show Below w.heap.size w W0 by rw [hW0]; exact alloc1 _ _)
  have hx : W0.heap[w.heap.size]? = some (.cells #[.bool cst, .int .i64 co, .int .i64 con, .int .i64 cca, .int .i64 can, .int .i64 ccb, .int .i64 cbn] 35 (0, 0)) := by rw [hW0]; exact heap_alloc_new w _
  have c1 := L.blk_cell hx 1
  have c3 := L.blk_cell hx 3
  have c5 := L.blk_cell hx 5
  simp only [List.getElem?_toArray, List.getElem?_cons_zero, List.getElem?_cons_succ] at c1 c3 c5
  have HTA := Lib.hid (fun i => rto_at A ca p i W0 (hA.below HB0.out) hpl)
  have HTB := Lib.hid (fun i => rto_at B cb q i W0 (hB.below HB0.out) hql)
  have HRL := Lib.hid (run_le p q (co, cca, ccb))
  have HR := Lib.hid (And.intro hp hq)
  clear hx hA hB hp hq
  go_enter Try.func18, Try.ntmps18
  go_wp2_with fail
  rw [← hW0]
  clear hW0
  go_loopg [7] p.length (fun mm x7 wr => ∃ k : Nat, k ≤ p.length ∧ x7 = .int .i64 (k : Int) ∧ p.length - k ≤ mm ∧ wr = W0 ∧ Hid (run p q (co, cca, ccb) = k + run p q (plus (co, cca, ccb) k)))
  case atStart => exact ⟨0, Nat.zero_le _, rfl, by omega, rfl, Lib.hid (by rw [show ((0 : Nat) : Int) = 0 from rfl, plus_zero]; omega)⟩
  case round =>
    obtain ⟨k, hk, rfl, hm, rfl, HK⟩ := hrel
    have hw0 : IntKind.i64.wrap (co + (k : Int)) = co + k := by rw [IntKind.wrap_i64]; omega
    have hw1 : IntKind.i64.wrap (cca + (k : Int)) = cca + k := by rw [IntKind.wrap_i64]; omega
    have hw2 : IntKind.i64.wrap (ccb + (k : Int)) = ccb + k := by rw [IntKind.wrap_i64]; omega
    have HI := Lib.hid (run_fnd HR.out.1 HR.out.2 (t := plus (co, cca, ccb) k))
    have HTA1 := Lib.hid (HTA.out (co + k))
    have HTB1 := Lib.hid (HTB.out (co + k))
    simp only [plus] at HI
    obtain ⟨fa, hfa⟩ : ∃ f, f = fnd p (co + k) := ⟨_, rfl⟩
    obtain ⟨fb, hfb⟩ : ∃ f, f = fnd q (co + k) := ⟨_, rfl⟩
    rw [← hfa, ← hfb] at HI
    rw [← hfa] at HTA1
    rw [← hfb] at HTB1
    clear hfa hfb
    have HMS := Lib.hid (fun (h : ¬ (fa = some (cca + (k : Int)) ∧ fb = some (ccb + (k : Int)))) => show run p q (co, cca, ccb) = k by
      have := run_miss (p := p) (q := q) (t := plus (co, cca, ccb) k) (fun hs => h (HI.out.1 hs))
      have h1 := HK.out
      omega)
    go_wp2_with fail
    with_reducible refine (HTA1.out).mono ?_
    rintro e w2 ⟨rfl, rfl⟩
    go_wp2_with fail
    with_reducible refine (HTB1.out).mono ?_
    rintro e w3 ⟨rfl, rfl⟩
    cases fa with
    | none =>
      have HV := Lib.hid (HMS.out (fun h => by cases h.1))
      simp only [Option.getD_none, Option.isSome_none]
      go_wp2_with fail
      go_ret
      exact ⟨by rw [HV.out]; rfl, HB0.out⟩
    | some xa =>
      cases fb with
      | none =>
        have HV := Lib.hid (HMS.out (fun h => by cases h.2))
        simp only [Option.getD_some, Option.isSome_some, Option.getD_none, Option.isSome_none]
        go_wp2_with fail
        go_ret
        exact ⟨by rw [HV.out]; rfl, HB0.out⟩
      | some xb =>
        simp only [Option.getD_some, Option.isSome_some]
        by_cases h1 : xa = cca + k
        · by_cases h2 : xb = ccb + k
          · have HIN := Lib.hid (HI.out.2 ⟨by rw [h1], by rw [h2]⟩)
            have HNX : Hid (run p q (co, cca, ccb) = (k + 1 : Nat) + run p q (plus (co, cca, ccb) ((k + 1 : Nat) : Int)) ∧ k + 1 ≤ p.length) := Lib.hid (by
              have h3 := run_hit HR.out.1 HR.out.2 HIN.out
              have h4 := HK.out
              have h5 := HRL.out
              rw [show ((co + (k : Int), cca + (k : Int), ccb + (k : Int)) : Tr) = plus (co, cca, ccb) k from rfl, plus_plus] at h3
              rw [show ((k + 1 : Nat) : Int) = (k : Int) + 1 by omega]
              omega)
            subst h1 h2
            go_wp2_with fail
            go_roundg (p.length - (k + 1))
            case measure => have := HNX.out.2; omega
            case rel => exact ⟨k + 1, HNX.out.2, by go_num, Nat.le_refl _, rfl, Lib.hid HNX.out.1⟩
          · have HV := Lib.hid (HMS.out (fun h => h2 (by injection h.2)))
            subst h1
            go_wp2_with fail
            go_ret
            exact ⟨by rw [HV.out]; rfl, HB0.out⟩
        · have HV := Lib.hid (HMS.out (fun h => h1 (by injection h.1)))
          go_wp2_with fail
          go_ret
          exact ⟨by rw [HV.out]; rfl, HB0.out⟩

/-! The first place that is there on both sides, pair by pair. -/
def hit (q : List Pr) (t : Tr) (z : Pr) : Option Tr := match fnd q z.1 with
  | some k => if t.1 ≤ z.1 ∧ t.2.1 ≤ z.2 ∧ t.2.2 ≤ k then some (z.1, z.2, k) else none
  | none => none
theorem nxt_hit (q : List Pr) (t : Tr) : ∀ p : List Pr, nxt p q t = p.findSome? (hit q t)
  | [] => rfl
  | z :: r => by
    have ih := nxt_hit q t r
    unfold nxt nx shd at ih ⊢
    rw [sh_cons, List.findSome?_cons, List.filter_append, List.find?_append, ih]
    unfold hit
    cases hf : fnd q z.1 with
    | none => simp
    | some k =>
      simp only [Option.map_some, Option.toList_some, List.filter_cons, List.filter_nil]
      by_cases h1 : t.1 ≤ z.1
      · by_cases h2 : t.2.1 ≤ z.2
        · by_cases h3 : t.2.2 ≤ k
          · simp [h1, h2, h3]
          · simp [h1, h2, h3]
        · simp [h1, h2]
      · simp [h1]
theorem hit_none {q : List Pr} {t : Tr} {z : Pr} (h : fnd q z.1 = none) : hit q t z = none := by unfold hit; rw [h]
theorem hit_some {q : List Pr} {t : Tr} {z : Pr} {k : Int} (h : fnd q z.1 = some k) : hit q t z = if t.1 ≤ z.1 ∧ t.2.1 ≤ z.2 ∧ t.2.2 ≤ k then some (z.1, z.2, k) else none := by unfold hit; rw [h]
theorem some_take {p : List Pr} {f : Pr → Option Tr} {k : Nat} (hk : k < p.length) : (p.take (k + 1)).findSome? f = ((p.take k).findSome? f).or (f p[k]) := by
  rw [List.take_succ_eq_append_getElem hk, List.findSome?_append]
  simp
theorem hit_off {q : List Pr} {t : Tr} {z : Pr} {k : Int} (h : fnd q z.1 = some k) (hn : ¬ (t.1 ≤ z.1 ∧ t.2.1 ≤ z.2 ∧ t.2.2 ≤ k)) : hit q t z = none := by rw [hit_some h, if_neg hn]
/-- What the reference's Next holds while pairs come: the best one's place. -/
def Best (p q : List Pr) (t : Tr) (k : Nat) (b : Int) : Prop := (b = -1 ∧ (p.take k).findSome? (hit q t) = none) ∨ (∃ j : Nat, b = (j : Int) ∧ j < k ∧ ∃ hj : j < p.length, ∃ x, hit q t p[j] = some x ∧ (p.take k).findSome? (hit q t) = some x)
theorem best_zero (p q : List Pr) (t : Tr) : Best p q t 0 (-1) := .inl ⟨rfl, by simp⟩
theorem best_miss {p q : List Pr} {t : Tr} {k : Nat} (hk : k < p.length) (h : Best p q t k (-1)) (hm : hit q t p[k] = none) : Best p q t (k + 1) (-1) := by
  rcases h with ⟨-, h⟩ | ⟨j, h, -⟩
  · exact .inl ⟨rfl, by rw [some_take hk, h, hm]; rfl⟩
  · omega
theorem best_hit {p q : List Pr} {t : Tr} {k : Nat} (hk : k < p.length) (h : Best p q t k (-1)) {x : Tr} (hm : hit q t p[k] = some x) : Best p q t (k + 1) (k : Int) := by
  rcases h with ⟨-, h⟩ | ⟨j, h, -⟩
  · exact .inr ⟨k, rfl, by omega, hk, x, hm, by rw [some_take hk, h, hm]; rfl⟩
  · omega
theorem best_on {p q : List Pr} {t : Tr} {k j : Nat} (hk : k < p.length) (h : Best p q t k (j : Int)) : Best p q t (k + 1) (j : Int) := by
  rcases h with ⟨h, -⟩ | ⟨i, h, hik, hi, x, h1, h2⟩
  · omega
  · exact .inr ⟨i, h, by omega, hi, x, h1, by rw [some_take hk, h2]; rfl⟩
theorem hit_at {q : List Pr} {t z : Tr} {y : Pr} (h : hit q t y = some z) : z.1 = y.1 ∧ z.2.1 = y.2 ∧ fnd q y.1 = some z.2.2 := by
  unfold hit at h
  split at h
  · rename_i k hf
    split at h
    · injection h with h
      subst h
      exact ⟨rfl, rfl, hf⟩
    · cases h
  · cases h
set_option maxRecDepth 100000 in
set_option maxHeartbeats 4000000 in
theorem rnext_any (A B : Option Addr) (ca cb : Nat) (p q : List Pr) (n m l : Int) (c : Ck) (w : World) (hp : Rt p n m) (hq : Rt q n l) (hpl : p.length ≤ 1000) (hql : q.length ≤ 1000) (hA : PrIn w A p) (hB : PrIn w B q) :
    Calls Try.prog 16 #[.slice A p.length ca, .slice B q.length cb, ckV c] w fun e w' => e = .returned (nxV (nxt p q (c.o, c.a, c.b))) ∧ Below w.heap.size w w' := by
  obtain ⟨cst, co, con, cca, can, ccb, cbn⟩ := c
  simp only [ckV]
  obtain ⟨W0, hW0⟩ : ∃ W : World, W = w.alloc (.cells #[.bool cst, .int .i64 co, .int .i64 con, .int .i64 cca, .int .i64 can, .int .i64 ccb, .int .i64 cbn] 35) := ⟨_, rfl⟩
  have HB0 := Lib.hid (show Below w.heap.size w W0 by rw [hW0]; exact alloc1 _ _)
  have hx : W0.heap[w.heap.size]? = some (.cells #[.bool cst, .int .i64 co, .int .i64 con, .int .i64 cca, .int .i64 can, .int .i64 ccb, .int .i64 cbn] 35 (0, 0)) := by rw [hW0]; exact heap_alloc_new w _
  have c1 := L.blk_cell hx 1
  have c3 := L.blk_cell hx 3
  have c5 := L.blk_cell hx 5
  simp only [List.getElem?_toArray, List.getElem?_cons_zero, List.getElem?_cons_succ] at c1 c3 c5
  have HTA := Lib.hid (fun i => rto_at A ca p i W0 (hA.below HB0.out) hpl)
  have HTB := Lib.hid (fun i => rto_at B cb q i W0 (hB.below HB0.out) hql)
  have HPA := Lib.hid (PrLow.of (hA.below HB0.out))
  have HR := Lib.hid (And.intro hp hq)
  have HNX := Lib.hid (nxt_hit q (co, cca, ccb) p)
  clear hx hA hB hp hq
  go_enter Try.func16, Try.ntmps16
  go_wp2_with fail
  rw [← hW0]
  clear hW0
  go_loopg [10, 11] p.length (fun mm x10 x11 wr => ∃ (k : Nat) (b : Int), k ≤ p.length ∧ x10 = .int .i64 b ∧ x11 = .int .i64 (k : Int) ∧ p.length - k ≤ mm ∧ wr = W0 ∧ Hid (Best p q (co, cca, ccb) k b))
  case atStart => exact ⟨0, -1, Nat.zero_le _, rfl, rfl, by omega, rfl, Lib.hid (best_zero p q _)⟩
  case round =>
    obtain ⟨k, b, hk, rfl, rfl, hm, rfl, HK⟩ := hrel
    by_cases hlt : k < p.length
    · obtain ⟨bk, off, hAe, hbk, hI⟩ := HPA.out (by omega)
      subst hAe
      obtain ⟨q0, q1⟩ := hI k hlt
      have h0k : (0 : Int) ≤ (k : Int) := by omega
      have hki : (k : Int) < (p.length : Int) := by omega
      have HFA := Lib.hid (HR.out.1.at hlt)
      have HLT := Lib.hid hlt
      have HIX := Lib.hid hI
      obtain ⟨z, hz⟩ : ∃ z : Pr, p[k]'hlt = z := ⟨_, rfl⟩
      rw [hz] at q0 q1 HFA
      have HZ := Lib.hid hz.symm
      clear hz hI q1
      obtain ⟨z0, z1⟩ := z
      simp only at q0 HFA
      have HTA1 := Lib.hid (HTA.out z0)
      have HTB1 := Lib.hid (HTB.out z0)
      rw [HFA.out] at HTA1
      simp only [Option.getD_some, Option.isSome_some] at HTA1
      obtain ⟨fb, hfb⟩ : ∃ f, f = fnd q z0 := ⟨_, rfl⟩
      rw [← hfb] at HTB1
      have HFB := Lib.hid hfb
      clear hfb
      go_wp2_with fail
      with_reducible refine (HTA1.out).mono ?_
      rintro e w2 ⟨rfl, rfl⟩
      go_wp2_with fail
      with_reducible refine (HTB1.out).mono ?_
      rintro e w3 ⟨rfl, rfl⟩
      clear HTA1 HTB1
      by_cases hb : b = -1
      · subst hb
        cases fb with
        | none =>
          have HN := Lib.hid (best_miss HLT.out HK.out (hit_none (by rw [← HZ.out]; exact HFB.out.symm)))
          simp only [Option.getD_none, Option.isSome_none]
          go_wp2_with fail
          go_roundg (p.length - (k + 1))
          case measure => omega
          case rel => exact ⟨k + 1, -1, by omega, rfl, by go_num, Nat.le_refl _, rfl, HN⟩
        | some xb =>
          simp only [Option.getD_some, Option.isSome_some]
          have HHS := Lib.hid (fun (h : co ≤ z0 ∧ cca ≤ z1 ∧ ccb ≤ xb) => best_hit HLT.out HK.out (x := (z0, z1, xb)) (by rw [← HZ.out]; exact (hit_some (t := (co, cca, ccb)) (z := (z0, z1)) HFB.out.symm).trans (if_pos h)))
          have HHN := Lib.hid (fun (h : ¬ (co ≤ z0 ∧ cca ≤ z1 ∧ ccb ≤ xb)) => best_miss HLT.out HK.out (by rw [← HZ.out]; exact hit_off (t := (co, cca, ccb)) (z := (z0, z1)) HFB.out.symm h))
          by_cases h1 : co ≤ z0
          · by_cases h2 : cca ≤ z1
            · by_cases h3 : ccb ≤ xb
              · have HN := Lib.hid (HHS.out ⟨h1, h2, h3⟩)
                go_wp2_with fail
                go_roundg (p.length - (k + 1))
                case measure => omega
                case rel => exact ⟨k + 1, (k : Int), by omega, rfl, by go_num, Nat.le_refl _, rfl, HN⟩
              · have HN := Lib.hid (HHN.out (fun h => h3 h.2.2))
                go_wp2_with fail
                go_roundg (p.length - (k + 1))
                case measure => omega
                case rel => exact ⟨k + 1, -1, by omega, rfl, by go_num, Nat.le_refl _, rfl, HN⟩
            · have HN := Lib.hid (HHN.out (fun h => h2 h.2.1))
              go_wp2_with fail
              go_roundg (p.length - (k + 1))
              case measure => omega
              case rel => exact ⟨k + 1, -1, by omega, rfl, by go_num, Nat.le_refl _, rfl, HN⟩
          · have HN := Lib.hid (HHN.out (fun h => h1 h.1))
            go_wp2_with fail
            go_roundg (p.length - (k + 1))
            case measure => omega
            case rel => exact ⟨k + 1, -1, by omega, rfl, by go_num, Nat.le_refl _, rfl, HN⟩
      · have HJ : Hid (∃ j : Nat, b = (j : Int) ∧ j < k ∧ j < p.length) := Lib.hid (by
          rcases HK.out with ⟨h, -⟩ | ⟨j, h, hj, hjp, -⟩
          · exact absurd h hb
          · exact ⟨j, h, hj, hjp⟩)
        obtain ⟨j, rfl, hjk, hjp⟩ := HJ.out
        obtain ⟨r0, -⟩ := HIX.out j hjp
        have hjz : ¬ z0 < p[j].1 := by
          have := up_lt (HR.out.1.up.imp fun h => h.1) hjp HLT.out hjk
          rw [← HZ.out] at this
          simp only at this
          omega
        obtain ⟨y, hy⟩ : ∃ y, y = p[j].1 := ⟨_, rfl⟩
        rw [← hy] at r0 hjz
        have HN := Lib.hid (best_on HLT.out HK.out)
        have hj0 : (0 : Int) ≤ (j : Int) := by omega
        have hj1 : (j : Int) < (p.length : Int) := by omega
        have hj2 : ¬ (j : Int) < 0 := by omega
        have hjn : j < 9223372036854775807 := by omega
        clear hy hb
        cases fb with
        | none =>
          simp only [Option.getD_none, Option.isSome_none]
          go_wp2_with fail
          go_roundg (p.length - (k + 1))
          case measure => omega
          case rel => exact ⟨k + 1, (j : Int), by omega, rfl, by go_num, Nat.le_refl _, rfl, HN⟩
        | some xb =>
          simp only [Option.getD_some, Option.isSome_some]
          by_cases h1 : co ≤ z0
          · by_cases h2 : cca ≤ z1
            · by_cases h3 : ccb ≤ xb
              all_goals
                go_wp2_with fail
                go_roundg (p.length - (k + 1))
                case measure => omega
                case rel => exact ⟨k + 1, (j : Int), by omega, rfl, by go_num, Nat.le_refl _, rfl, HN⟩
            · go_wp2_with fail
              go_roundg (p.length - (k + 1))
              case measure => omega
              case rel => exact ⟨k + 1, (j : Int), by omega, rfl, by go_num, Nat.le_refl _, rfl, HN⟩
          · go_wp2_with fail
            go_roundg (p.length - (k + 1))
            case measure => omega
            case rel => exact ⟨k + 1, (j : Int), by omega, rfl, by go_num, Nat.le_refl _, rfl, HN⟩
    · obtain rfl : k = p.length := by omega
      have HKE : Hid ((b = -1 ∧ nxt p q (co, cca, ccb) = none) ∨ (∃ j : Nat, b = (j : Int) ∧ ∃ hj : j < p.length, ∃ x, hit q (co, cca, ccb) p[j] = some x ∧ nxt p q (co, cca, ccb) = some x)) := Lib.hid (by
        have h := HK.out
        unfold Best at h
        rw [List.take_length, ← HNX.out] at h
        rcases h with h | ⟨j, h, -, hj, x, h1, h2⟩
        · exact .inl h
        · exact .inr ⟨j, h, hj, x, h1, h2⟩)
      clear HK hlt
      rcases HKE.out with ⟨rfl, hn⟩ | ⟨j, rfl, hj, x, h1, h2⟩
      · have HV := Lib.hid hn
        clear hn HKE
        go_wp2_with fail
        refine bodyPost_ret (v := .tuple #[.int .i64 0, .int .i64 0, .int .i64 0, .bool false]) (by simp [results, Try.results16, go_sem]) rfl ⟨by rw [HV.out]; rfl, HB0.out⟩
      · have HV := Lib.hid h2
        have HAT := Lib.hid (hit_at h1)
        have HFA := Lib.hid (HR.out.1.at hj)
        obtain ⟨bk, off, hAe, hbk, hI⟩ := HPA.out (by omega)
        subst hAe
        obtain ⟨q0, -⟩ := hI j hj
        have h0k : (0 : Int) ≤ (j : Int) := by omega
        have hki : (j : Int) < (p.length : Int) := by omega
        have hj2 : ¬ (j : Int) < 0 := by omega
        obtain ⟨x0, x1, x2⟩ := x
        have hx0 := HAT.out.1
        have hx1 := HAT.out.2.1
        have hx2 := HAT.out.2.2
        simp only at hx0 hx1 hx2
        rw [← hx0] at q0 hx2 HFA
        rw [← hx1] at HFA
        have HTA1 := Lib.hid (HTA.out x0)
        have HTB1 := Lib.hid (HTB.out x0)
        rw [HFA.out] at HTA1
        rw [hx2] at HTB1
        simp only [Option.getD_some, Option.isSome_some] at HTA1 HTB1
        clear h1 h2 hI HKE hx0 hx1 hx2 HAT HFA
        go_wp2_with fail
        with_reducible refine (HTA1.out).mono ?_
        rintro e w2 ⟨rfl, rfl⟩
        go_wp2_with fail
        with_reducible refine (HTB1.out).mono ?_
        rintro e w3 ⟨rfl, rfl⟩
        go_wp2_with fail
        refine bodyPost_ret (v := .tuple #[.int .i64 x0, .int .i64 x1, .int .i64 x2, .bool true]) (by simp [results, Try.results16, go_sem]) rfl ⟨by rw [HV.out]; rfl, HB0.out⟩
end Go.Proofs.Ytcnnbchaelboeaa.Ck
