/-
  How many numbers two rows begin and end with alike: plain, and the contracts of the program's and the reference's Ends.
  The contract of the reference's Ends.
-/
import Derived.Test.YtllgeffjkjdadaaGvc
import Derived.Deep.DeepCutAuto
import Derived.Deep.CutRange
namespace Go.Proofs.Ytllgeffjkjdadaa.N
set_option linter.unusedVariables false
set_option linter.unusedSimpArgs false
open Go.RowKit
open T
open V (IntsIn numCells numCells_snoc ints_own drawn_below)
open I (alloc1 own_at own_below)

/-- How many numbers two rows begin with alike. -/
def cpl : List Int → List Int → Nat
  | x :: a, y :: b => if x = y then cpl a b + 1 else 0
  | _, _ => 0
theorem cpl_is : ∀ (a b : List Int) (k : Nat), (∀ j (hj : j < a.length) (hj' : j < b.length), j < k → a[j] = b[j]) → k ≤ a.length → k ≤ b.length → (∀ (h : k < a.length) (h' : k < b.length), ¬ a[k] = b[k]) → cpl a b = k
  | [], _, k, _, h1, _, _ => by simp only [List.length_nil] at h1; cases b : (‹List Int› : List Int) <;> (simp only [cpl]; omega)
  | x :: a, [], k, _, _, h2, _ => by simp only [List.length_nil] at h2; simp only [cpl]; omega
  | x :: a, y :: b, 0, _, _, _, hn => by
    have := hn (by simp) (by simp)
    simp only [List.getElem_cons_zero] at this
    rw [cpl, if_neg this]
  | x :: a, y :: b, k + 1, h, h1, h2, hn => by
    have h0 := h 0 (by simp) (by simp) (by omega)
    simp only [List.getElem_cons_zero] at h0
    rw [cpl, if_pos h0, cpl_is a b k (fun j hj hj' hjk => by
      have := h (j + 1) (by simpa using hj) (by simpa using hj') (by omega)
      simpa using this) (by simpa using h1) (by simpa using h2) (fun g g' => by
      have := hn (by simpa using g) (by simpa using g')
      simpa using this)]
theorem cpl_le1 : ∀ a b : List Int, cpl a b ≤ a.length
  | [], _ => by simp [cpl]
  | x :: a, [] => by simp [cpl]
  | x :: a, y :: b => by have := cpl_le1 a b; rw [cpl]; split <;> simp; omega
theorem cpl_le2 : ∀ a b : List Int, cpl a b ≤ b.length
  | [], _ => by simp [cpl]
  | x :: a, [] => by simp [cpl]
  | x :: a, y :: b => by have := cpl_le2 a b; rw [cpl]; split <;> simp; omega
/-- .. and, of what is left, end with alike. -/
def csl (a b : List Int) : Nat := cpl (a.drop (cpl a b)).reverse (b.drop (cpl a b)).reverse
theorem csl_is {a b : List Int} {k e : Nat} (hk : cpl a b = k) (h : ∀ j (hj : a.length - 1 - j < a.length) (hj' : b.length - 1 - j < b.length), j < e → a[a.length - 1 - j] = b[b.length - 1 - j]) (h1 : e + k ≤ a.length) (h2 : e + k ≤ b.length)
    (hn : ∀ (_ : e + k < a.length) (_ : e + k < b.length) (hj : a.length - 1 - e < a.length) (hj' : b.length - 1 - e < b.length), ¬ a[a.length - 1 - e] = b[b.length - 1 - e]) : csl a b = e := by
  unfold csl
  rw [hk]
  have g : ∀ (l : List Int) (j : Nat) (hj : j < (l.drop k).reverse.length), (l.drop k).reverse[j] = l[l.length - 1 - j]'(by simp at hj; omega) := fun l j hj => by
    rw [List.getElem_reverse, List.getElem_drop]
    congr 1
    simp at hj ⊢
    omega
  refine cpl_is _ _ e (fun j hj hj' hje => ?_) (by simp; omega) (by simp; omega) (fun q q' => ?_)
  · rw [g, g]; exact h j (by simp at hj; omega) (by simp at hj'; omega) hje
  · rw [g, g]; exact hn (by simp at q; omega) (by simp at q'; omega) (by simp at q; omega) (by simp at q'; omega)
theorem step_eq {a b : List Int} {k : Nat} (hk : k < a.length) (hk' : k < b.length) (h : a[k] = b[k]) (H : ∀ j (hj : j < a.length) (hj' : j < b.length), j < k → a[j] = b[j]) : ∀ j (hj : j < a.length) (hj' : j < b.length), j < k + 1 → a[j] = b[j] := V.ext_step hk hk' h H
theorem step_back {a b : List Int} {e : Nat} (h1 : a.length - 1 - e < a.length) (h2 : b.length - 1 - e < b.length) (h : a[a.length - 1 - e] = b[b.length - 1 - e]) (H : ∀ j (hj : a.length - 1 - j < a.length) (hj' : b.length - 1 - j < b.length), j < e → a[a.length - 1 - j] = b[b.length - 1 - j]) :
    ∀ j (hj : a.length - 1 - j < a.length) (hj' : b.length - 1 - j < b.length), j < e + 1 → a[a.length - 1 - j] = b[b.length - 1 - j] := fun j hj hj' hje => by
  by_cases q : j = e
  · subst q; exact h
  · exact H j hj hj' (by omega)
theorem drewN_add (w : World) (q n : Nat) : (w.drewN q).drewN n = w.drewN (q + n) := by simp [World.drewN, Nat.add_assoc]
theorem getD_at {a : List Int} {k : Nat} (h : k < a.length) : a.getD k 0 = a[k] := by rw [List.getD_eq_getElem?_getD, List.getElem?_eq_getElem h]; rfl
theorem go_true {a b : List Int} {k m : Nat} (hm : m = min a.length b.length) (h : true = (decide (k < m) && decide (a.getD k 0 = b.getD k 0))) (H : ∀ j (hj : j < a.length) (hj' : j < b.length), j < k → a[j] = b[j]) : k < m ∧ ∀ j (hj : j < a.length) (hj' : j < b.length), j < k + 1 → a[j] = b[j] := by
  have h2 := (Bool.and_eq_true _ _).mp h.symm
  have h3 := of_decide_eq_true h2.1
  have h4 := of_decide_eq_true h2.2
  have ha : k < a.length := by omega
  have hb : k < b.length := by omega
  rw [getD_at ha, getD_at hb] at h4
  exact ⟨h3, step_eq ha hb h4 H⟩
theorem go_false {a b : List Int} {k m : Nat} (hm : m = min a.length b.length) (hk : k ≤ m) (h : false = (decide (k < m) && decide (a.getD k 0 = b.getD k 0))) (H : ∀ j (hj : j < a.length) (hj' : j < b.length), j < k → a[j] = b[j]) : cpl a b = k :=
  cpl_is a b k H (by omega) (by omega) fun ha hb e => by
    rw [getD_at ha, getD_at hb, decide_eq_true e, decide_eq_true (show k < m by omega)] at h
    cases h
theorem back_true {a b : List Int} {e n : Nat} (h1 : n ≤ a.length) (h2 : n ≤ b.length) (h : true = (decide (e < n) && decide (a.getD (a.length - 1 - e) 0 = b.getD (b.length - 1 - e) 0))) (H : ∀ j (hj : a.length - 1 - j < a.length) (hj' : b.length - 1 - j < b.length), j < e → a[a.length - 1 - j] = b[b.length - 1 - j]) :
    e < n ∧ ∀ j (hj : a.length - 1 - j < a.length) (hj' : b.length - 1 - j < b.length), j < e + 1 → a[a.length - 1 - j] = b[b.length - 1 - j] := by
  have h2' := (Bool.and_eq_true _ _).mp h.symm
  have h3 := of_decide_eq_true h2'.1
  have h4 := of_decide_eq_true h2'.2
  have ha : a.length - 1 - e < a.length := by omega
  have hb : b.length - 1 - e < b.length := by omega
  rw [getD_at ha, getD_at hb] at h4
  exact ⟨h3, step_back ha hb h4 H⟩
theorem back_false {a b : List Int} {k e n : Nat} (hc : cpl a b = k) (hn : n = min a.length b.length - k) (hk : k ≤ min a.length b.length) (he : e ≤ n) (h : false = (decide (e < n) && decide (a.getD (a.length - 1 - e) 0 = b.getD (b.length - 1 - e) 0))) (H : ∀ j (hj : a.length - 1 - j < a.length) (hj' : b.length - 1 - j < b.length), j < e → a[a.length - 1 - j] = b[b.length - 1 - j]) : csl a b = e :=
  csl_is hc H (by omega) (by omega) fun q1 q2 ha hb e' => by
    rw [getD_at ha, getD_at hb, decide_eq_true e', decide_eq_true (show e < n by omega)] at h
    cases h
/-- Ends, of two rows. -/
def EnC (fn : FuncId) (a b : List Int) : Prop := ∀ (W : World) (A B : Option Addr) (c c' : Nat), IntsIn W A a → IntsIn W B b → Calls Try.prog fn #[.slice A a.length c, .slice B b.length c'] W fun e w' => e = .returned (.tuple #[.int .i64 (cpl a b : Nat), .int .i64 (csl a b : Nat)]) ∧ Below W.heap.size W w'
theorem EnC.at {fn : FuncId} {a b : List Int} (h : EnC fn a b) (W : World) {A B : Option Addr} {c c' : Nat} (h1 : IntsIn W A a) (h2 : IntsIn W B b) : Calls Try.prog fn #[.slice A a.length c, .slice B b.length c'] W fun e w' => e = .returned (.tuple #[.int .i64 (cpl a b : Nat), .int .i64 (csl a b : Nat)]) ∧ Below W.heap.size W w' := h W A B c c' h1 h2

set_option maxHeartbeats 2000000 in
set_option maxRecDepth 100000 in
theorem ends_is (a b : List Int) (ha : a.length ≤ maxLen) (hb : b.length ≤ maxLen) : EnC 27 a b := fun w A B c c' h1 h2 => by
  unfold maxLen at ha hb
  have HA := Lib.hid h1
  have HB := Lib.hid h2
  clear h1 h2
  obtain ⟨la, hla⟩ : ∃ n, n = a.length := ⟨_, rfl⟩
  obtain ⟨lb, hlb⟩ : ∃ n, n = b.length := ⟨_, rfl⟩
  obtain ⟨m, hm⟩ : ∃ m, m = min la lb := ⟨_, rfl⟩
  have hmi : min (la : Int) (lb : Int) = (m : Int) := by omega
  rw [← hla, ← hlb]
  have HL := Lib.hid (And.intro hla (And.intro hlb hm))
  rw [← hla] at ha
  rw [← hlb] at hb
  clear hla hlb hm
  go_enter Try.func27, Try.ntmps27
  go_wp2_with fail
  go_loopg [7] m (fun n i wr => ∃ k : Nat, k ≤ m ∧ i = .int .i64 k ∧ m - k ≤ n ∧ (∃ q, wr = w.drewN q) ∧ Hid (∀ j (hj : j < a.length) (hj' : j < b.length), j < k → a[j] = b[j]))
  case atStart => exact ⟨0, Nat.zero_le _, rfl, by omega, ⟨0, rfl⟩, Lib.hid fun j hj hj' h => absurd h (by omega)⟩
  case round =>
    obtain ⟨k, hk, rfl, hn, ⟨q, rfl⟩, HJ⟩ := hrel
    obtain ⟨go, hgo⟩ : ∃ go : Bool, go = (decide (k < m) && decide (a.getD k 0 = b.getD k 0)) := ⟨_, rfl⟩
    have HG := Lib.hid hgo
    clear hgo
    go_upto_region 3 with fail
    go_cut [27] from 14 to 29 (fun c wx => c = .bool go ∧ ∃ q', wx = w.drewN q')
    case first =>
      by_cases hlt : k < m
      · have hka : k < a.length := by have := HL.out; omega
        have hkb : k < b.length := by have := HL.out; omega
        obtain ⟨bk, off, hAe, hbk, hI⟩ := HA.out (by omega)
        obtain ⟨bk', off', hAe', hbk', hI'⟩ := HB.out (by omega)
        subst hAe hAe'
        have c0 := hI k hka
        have d0 := hI' k hkb
        have k0 : (0 : Int) ≤ (k : Int) := by omega
        have k1 : (k : Int) < (la : Int) := by have := HL.out; omega
        have k2 : (k : Int) < (lb : Int) := by have := HL.out; omega
        have g1 : a.getD k 0 = a[k] := by rw [List.getD_eq_getElem?_getD, List.getElem?_eq_getElem hka]; rfl
        have g2 : b.getD k 0 = b[k] := by rw [List.getD_eq_getElem?_getD, List.getElem?_eq_getElem hkb]; rfl
        have hgo := HG.out
        rw [g1, g2, decide_eq_true hlt, Bool.true_and] at hgo
        clear hI hI' g1 g2 HG HJ
        generalize a[k] = x at *
        generalize b[k] = y at *
        by_cases he : x = y
        · subst he
          rw [decide_eq_true rfl] at hgo
          subst hgo
          go_wp2_with fail
          go_quiet (fail)
          go_wp2_with fail
          go_meet
          case rel => exact ⟨rfl, _, drewN_add _ _ _⟩
        · rw [decide_eq_false he] at hgo
          subst hgo
          have hne : (x == y) = false := by simpa using he
          go_wp2_with fail
          go_quiet (fail)
          go_wp2_with fail
          go_meet
          case rel => exact ⟨rfl, _, drewN_add _ _ _⟩
      · have hgo := HG.out
        rw [decide_eq_false hlt, Bool.false_and] at hgo
        subst hgo
        clear HG
        go_wp2_with fail
        go_quiet (fail)
        go_wp2_with fail
        go_meet
        case rel => exact ⟨rfl, _, drewN_add _ _ _⟩
    case rest =>
      obtain ⟨rfl, q', rfl⟩ := hcut
      cases go with
      | true =>
        have HN : Hid (k < m ∧ ∀ j (hj : j < a.length) (hj' : j < b.length), j < k + 1 → a[j] = b[j]) := Lib.hid (go_true (by have := HL.out; omega) HG.out HJ.out)
        have hkm := HN.out.1
        go_wp2_with fail
        go_roundg (m - (k + 1))
        case measure => omega
        case rel => exact ⟨k + 1, by omega, by go_num, Nat.le_refl _, ⟨_, rfl⟩, Lib.hid HN.out.2⟩
      | false =>
        have HC : Hid (cpl a b = k) := Lib.hid (go_false (by have := HL.out; omega) hk HG.out HJ.out)
        obtain ⟨n2, hn2⟩ : ∃ n, n = m - k := ⟨_, rfl⟩
        have hw2 : IntKind.i64.wrap ((m : Int) - (k : Int)) = (n2 : Int) := by rw [IntKind.wrap_i64]; omega
        have HN2 := Lib.hid hn2
        clear hn2 HJ HG
        go_wp2_with fail
        go_loopg [8] n2 (fun n i wr => ∃ e : Nat, e ≤ n2 ∧ i = .int .i64 e ∧ n2 - e ≤ n ∧ (∃ q, wr = w.drewN q) ∧ Hid (∀ j (hj : a.length - 1 - j < a.length) (hj' : b.length - 1 - j < b.length), j < e → a[a.length - 1 - j] = b[b.length - 1 - j]))
        case atStart => exact ⟨0, Nat.zero_le _, rfl, by omega, ⟨_, rfl⟩, Lib.hid fun j hj hj' h => absurd h (by omega)⟩
        case round =>
          obtain ⟨e, hee, rfl, hn, ⟨q, rfl⟩, HJ⟩ := hrel
          obtain ⟨go, hgo⟩ : ∃ go : Bool, go = (decide (e < n2) && decide (a.getD (a.length - 1 - e) 0 = b.getD (b.length - 1 - e) 0)) := ⟨_, rfl⟩
          have HG := Lib.hid hgo
          clear hgo
          go_upto_region 6 with fail
          go_cut [53] from 30 to 55 (fun c wx => c = .bool go ∧ ∃ q', wx = w.drewN q')
          case first =>
            by_cases hlt : e < n2
            · obtain ⟨ia, hia⟩ : ∃ i, i = a.length - 1 - e := ⟨_, rfl⟩
              obtain ⟨ib, hib⟩ : ∃ i, i = b.length - 1 - e := ⟨_, rfl⟩
              have hka : ia < a.length := by have := HL.out; have := HN2.out; omega
              have hkb : ib < b.length := by have := HL.out; have := HN2.out; omega
              obtain ⟨bk, off, hAe, hbk, hI⟩ := HA.out (by omega)
              obtain ⟨bk', off', hAe', hbk', hI'⟩ := HB.out (by omega)
              subst hAe hAe'
              have c0 := hI ia hka
              have d0 := hI' ib hkb
              have k0 : (0 : Int) ≤ (ia : Int) := by omega
              have k3 : (0 : Int) ≤ (ib : Int) := by omega
              have k1 : (ia : Int) < (la : Int) := by have := HL.out; omega
              have k2 : (ib : Int) < (lb : Int) := by have := HL.out; omega
              have w1 : IntKind.i64.wrap ((la : Int) - 1) = (la : Int) - 1 := by rw [IntKind.wrap_i64]; have := HL.out; omega
              have w2 : IntKind.i64.wrap ((lb : Int) - 1) = (lb : Int) - 1 := by rw [IntKind.wrap_i64]; have := HL.out; omega
              have w3 : IntKind.i64.wrap ((la : Int) - 1 - (e : Int)) = (ia : Int) := by rw [IntKind.wrap_i64]; have := HL.out; have := HN2.out; omega
              have w4 : IntKind.i64.wrap ((lb : Int) - 1 - (e : Int)) = (ib : Int) := by rw [IntKind.wrap_i64]; have := HL.out; have := HN2.out; omega
              have hgo := HG.out
              rw [← hia, ← hib, getD_at hka, getD_at hkb, decide_eq_true hlt, Bool.true_and] at hgo
              clear hI hI' HG HJ hia hib
              generalize a[ia] = x at *
              generalize b[ib] = y at *
              by_cases he : x = y
              · subst he
                rw [decide_eq_true rfl] at hgo
                subst hgo
                go_wp2_with fail
                go_quiet (fail)
                go_wp2_with fail
                go_meet
                case rel => exact ⟨rfl, _, drewN_add _ _ _⟩
              · rw [decide_eq_false he] at hgo
                subst hgo
                have hne : (x == y) = false := by simpa using he
                go_wp2_with fail
                go_quiet (fail)
                go_wp2_with fail
                go_meet
                case rel => exact ⟨rfl, _, drewN_add _ _ _⟩
            · have hgo := HG.out
              rw [decide_eq_false hlt, Bool.false_and] at hgo
              subst hgo
              clear HG
              go_wp2_with fail
              go_quiet (fail)
              go_wp2_with fail
              go_meet
              case rel => exact ⟨rfl, _, drewN_add _ _ _⟩
          case rest =>
            obtain ⟨rfl, q', rfl⟩ := hcut
            cases go with
            | true =>
              have HN : Hid (e < n2 ∧ ∀ j (hj : a.length - 1 - j < a.length) (hj' : b.length - 1 - j < b.length), j < e + 1 → a[a.length - 1 - j] = b[b.length - 1 - j]) := Lib.hid (back_true (by have := HL.out; have := HN2.out; omega) (by have := HL.out; have := HN2.out; omega) HG.out HJ.out)
              have hkm := HN.out.1
              have hnb : n2 ≤ 9223372036854775807 := by have := HN2.out; omega
              go_wp2_with fail
              go_roundg (n2 - (e + 1))
              case measure => omega
              case rel => exact ⟨e + 1, by omega, by go_num, Nat.le_refl _, ⟨_, rfl⟩, Lib.hid HN.out.2⟩
            | false =>
              have HE : Hid (csl a b = e) := Lib.hid (back_false HC.out (by have := HL.out; have := HN2.out; omega) (by have := HL.out; omega) hee HG.out HJ.out)
              go_wp2_with fail
              go_ret2
              exact ⟨by rw [HC.out, HE.out]; rfl, drawn_below _ _⟩
end Go.Proofs.Ytllgeffjkjdadaa.N

namespace Go.Proofs.Ytllgeffjkjdadaa.N
set_option linter.unusedVariables false
set_option linter.unusedSimpArgs false
open Go.RowKit
open T
open V (IntsIn numCells numCells_snoc ints_own drawn_below)
open I (alloc1 own_at own_below)

/-- Ends, of two rows whose capacities are told. -/
def EcC (fn : FuncId) (a b : List Int) : Prop := ∀ (W : World) (A B : Option Addr) (c c' : Nat), IntsIn W A a → IntsIn W B b → a.length ≤ c → b.length ≤ c' → Calls Try.prog fn #[.slice A a.length c, .slice B b.length c'] W fun e w' => e = .returned (.tuple #[.int .i64 (cpl a b : Nat), .int .i64 (csl a b : Nat)]) ∧ Below W.heap.size W w'

theorem ints_drop {w : World} {A : Option Addr} {a : List Int} (h : IntsIn w A a) (k : Nat) : IntsIn w (Option.map (fun x => x.add k) A) (a.drop k) := fun hp => by
  obtain ⟨bk, off, rfl, hlt, hI⟩ := h (by simp at hp; omega)
  refine ⟨bk, off + k, by simp [Addr.add], hlt, fun j hj => ?_⟩
  rw [List.getElem_drop, Nat.add_assoc]
  exact hI (k + j) (by simp at hj; omega)
theorem ints_gone {w : World} {A : Option Addr} {a : List Int} {k : Nat} (h : a.length ≤ k) : IntsIn w A (a.drop k) := fun hp => absurd hp (by simp; omega)

end Go.Proofs.Ytllgeffjkjdadaa.N
