/-
  The library's merge of two rows of floats in order.
-/
import Derived.Test.YtngboallknmepaaGxaf
import Derived.BigQuiet
namespace Go.Proofs.Ytngboallknmepaa.Fp
set_option linter.unusedVariables false
set_option linter.unusedSimpArgs false
open Go.RowKit Go.Sort Go.Shelf
open T
open I (alloc1 own_at own_below)

attribute [local go_sem] run_store_fl
/-- The library's merge, as far as rows of that length. -/
def SymOK (N : Nat) : Prop := ∀ (a m b : Nat) (d0 d : Array UInt64) (blk off cap : Nat) (w0 w : World), b - a ≤ N → a < m → m < b → b ≤ d.size → d.size ≤ 1000000 → Row1 encF w0 blk off d0 → d0.size = d.size → SW encF w0 blk off d w → Sd a m d → Sd m b d →
  Calls Try.prog 50 #[.slice (some ⟨blk, off, none⟩) d.size cap, .int .i64 a, .int .i64 m, .int .i64 b, .func (.func 14) #[] #[]] w fun e w' =>
    e = .returned (.tuple #[]) ∧ ∃ d', SW encF w0 blk off d' w' ∧ PermIn a b d d' ∧ Sd a b d'
set_option maxHeartbeats 8000000 in
set_option maxRecDepth 1000000 in
theorem sym_first {a m b : Nat} (d0 d : Array UInt64) (blk off cap : Nat) (w0 w : World) (ham : m = a + 1) (hmb : m < b) (hb : b ≤ d.size) (hsz : d.size ≤ 1000000) (R : Row1 encF w0 blk off d0) (hs : d0.size = d.size) (S : SW encF w0 blk off d w) (hA : Sd a m d) (hB : Sd m b d) :
    Calls Try.prog 50 #[.slice (some ⟨blk, off, none⟩) d.size cap, .int .i64 a, .int .i64 m, .int .i64 b, .func (.func 14) #[] #[]] w fun e w' =>
      e = .returned (.tuple #[]) ∧ ∃ d', SW encF w0 blk off d' w' ∧ PermIn a b d d' ∧ Sd a b d' := by
  have S0 := Lib.hid S
  have HR := Lib.hid R
  have HA := Lib.hid hA
  have HB := Lib.hid hB
  have mixed : Try.prog.follows .mixedOrders = true := insFl.mixed
  have eg := enters
  clear S R hA hB
  obtain ⟨ds, hds⟩ : ∃ q, q = d.size := ⟨_, rfl⟩
  rw [← hds]
  have HDS := Lib.hid hds
  have HSZ : Hid (d0.size = ds) := Lib.hid (hs.trans hds.symm)
  have HD1 : Hid (d0.size = d.size) := Lib.hid hs
  rw [← hds] at hb hsz
  clear hs hds
  have hma : (m : Int) - (a : Int) = 1 := by omega
  have HM := Lib.hid ham
  have a1 : a < m := by omega
  clear ham
  go_enter Try.func50, Try.ntmps50
  go_wp2_with fail
  go_loopg [10, 11] (b - m) (fun kx si sj wr => ∃ (i j : Nat), si = .int .i64 i ∧ sj = .int .i64 j ∧ m ≤ i ∧ i ≤ j ∧ j ≤ b ∧ j - i ≤ kx ∧ Hid (SW encF w0 blk off d wr) ∧ Hid (i = m ∨ Kd d (i - 1) < Kd d a) ∧ Hid (j = b ∨ Kd d a ≤ Kd d j))
  case atStart => exact ⟨m, b, rfl, rfl, Nat.le_refl _, by omega, Nat.le_refl _, Nat.le_refl _, S0, Lib.hid (.inl rfl), Lib.hid (.inl rfl)⟩
  case round =>
    clear S0
    obtain ⟨i, j, rfl, rfl, hi, hij, hj, hmx, S1, HI, HJ⟩ := hrel
    by_cases hlt : i < j
    · have hltz : (i : Int) < (j : Int) := by omega
      go_upto_region 5 with fail
      obtain ⟨h, hh⟩ : ∃ h : Nat, h = (i + j) / 2 := ⟨_, rfl⟩
      have eh : ((i : Int) + (j : Int)) / 2 = (h : Int) := by omega
      rw [eh]
      have hh1 : i ≤ h := by omega
      have hh2 : h < j := by omega
      have hz0 : (0 : Int) ≤ (h : Int) := by omega
      have hz1 : (h : Int) < (ds : Int) := by omega
      have az0 : (0 : Int) ≤ (a : Int) := by omega
      have az1 : (a : Int) < (ds : Int) := by omega
      have hpl : h < d.size := by have := HDS.out; omega
      have hql : a < d.size := by have := HDS.out; omega
      have c1 := S1.out.c1 HR.out HD1.out.symm (h) hpl
      have c2 := S1.out.c1 HR.out HD1.out.symm (a) hql
      obtain ⟨x, hx⟩ : ∃ x, x = d[h]! := ⟨_, rfl⟩
      obtain ⟨y, hy⟩ : ∃ y, y = d[a]! := ⟨_, rfl⟩
      have HXK : Hid (Kd d (h) = ky x.toNat) := Lib.hid (by rw [hx]; rfl)
      have HYK : Hid (Kd d (a) = ky y.toNat) := Lib.hid (by rw [hy]; rfl)
      rw [← hx] at c1
      rw [← hy] at c2
      clear hx hy
      clear hh eh
      by_cases hc : ky x.toNat < ky y.toNat
      · have hd : decide (cmp (ky x.toNat) (ky y.toNat) < 0) = true := decide_eq_true (cmp_lt.2 hc)
        have HC := Lib.hid hc
        clear hc
        go_wp2_with fail
        go_quiet (first | (go_at_fn 14; refine Calls.quiet_of_same (order_any _ _ (u_lt _) (u_lt _) _)))
        go_wp2_with fail
        go_roundg (j - (h + 1))
        case measure => omega
        case rel => exact ⟨h + 1, j, by go_num, rfl, by omega, by omega, hj, Nat.le_refl _, Lib.hid (S1.out.drewN nq), Lib.hid (.inr (by rw [show h + 1 - 1 = h by omega, HXK.out, HYK.out]; exact HC.out)), HJ⟩
      · have hd : decide (cmp (ky x.toNat) (ky y.toNat) < 0) = false := decide_eq_false (fun h => hc (cmp_lt.1 h))
        have HC := Lib.hid (Int.not_lt.1 hc)
        clear hc
        go_wp2_with fail
        go_quiet (first | (go_at_fn 14; refine Calls.quiet_of_same (order_any _ _ (u_lt _) (u_lt _) _)))
        go_wp2_with fail
        go_roundg (h - i)
        case measure => omega
        case rel => exact ⟨i, h, rfl, rfl, hi, hh1, by omega, Nat.le_refl _, Lib.hid (S1.out.drewN nq), HI, Lib.hid (.inr (by rw [HXK.out, HYK.out]; exact HC.out))⟩
    · obtain rfl : i = j := by omega
      have HF1 : Hid (∀ x, m ≤ x → x < i → Kd d x < Kd d a) := Lib.hid (fun x x1 x2 => by
        rcases HI.out with h | h
        · omega
        · have := HB.out.le (i := x) (j := i - 1) x1 (by omega) (by omega)
          omega)
      have HF2 : Hid (∀ x, i ≤ x → x < b → Kd d a ≤ Kd d x) := Lib.hid (fun x x1 x2 => by
        rcases HJ.out with h | h
        · omega
        · have := HB.out.le (i := i) (j := x) (by omega) x1 x2
          omega)
      obtain ⟨i1, hi1⟩ : ∃ i1, i1 + 1 = i := ⟨i - 1, by omega⟩
      have ei : (i : Int) - 1 = (i1 : Int) := by omega
      have HI1 := Lib.hid hi1
      have ha1 : a ≤ i1 := by omega
      have hb1 : i1 < b := by omega
      clear HI HJ hi1 hmx
      go_wp2_with fail
      go_loopg [13] (i1 - a) (fun kx sk wr => ∃ (k : Nat) (dk : Array UInt64), sk = .int .i64 k ∧ a ≤ k ∧ k ≤ i1 ∧ i1 - k ≤ kx ∧ Hid (dk.size = ds) ∧ Hid (SW encF w0 blk off dk wr) ∧ Hid (Up a k d dk) ∧ Hid (PermIn a b d dk))
      case atStart => exact ⟨a, d, rfl, Nat.le_refl _, ha1, Nat.le_refl _, Lib.hid HDS.out.symm, S1, Lib.hid (Up.zero a d), Lib.hid (permIn_refl _ _ _)⟩
      case round =>
        clear S1
        obtain ⟨k, dk, rfl, hk1, hk2, hkx, hdk, S3, HU, HP⟩ := hrel
        by_cases hki : k < i1
        · have hkz : (k : Int) < (i : Int) - 1 := by omega
          have hkz' : (k : Int) < (i1 : Int) := by omega
          obtain ⟨iN, hiN⟩ : ∃ q, q = k := ⟨_, rfl⟩
          obtain ⟨jN, hjN⟩ : ∃ q, q = k + 1 := ⟨_, rfl⟩
          have ea : ((k : Int)).toNat = iN := by omega
          have pa : (0 : Int) ≤ (k : Int) := by omega
          have ba : (k : Int) < (ds : Int) := by omega
          have ra : IntKind.i64.wrap ((k : Int)) = (k : Int) := by rw [IntKind.wrap_i64]; omega
          have ec : ((k : Int) + 1).toNat = jN := by omega
          have pc : (0 : Int) ≤ (k : Int) + 1 := by omega
          have bc : (k : Int) + 1 < (ds : Int) := by omega
          have rc : IntKind.i64.wrap ((k : Int) + 1) = (k : Int) + 1 := by rw [IntKind.wrap_i64]; omega
          have hs1 : d0.size = dk.size := by rw [hdk.out]; exact HSZ.out
          have hsk : dk.size = ds := hdk.out
          obtain ⟨x, hx⟩ : ∃ x, x = dk[k]! := ⟨_, rfl⟩
          obtain ⟨y, hy⟩ : ∃ y, y = dk[k + 1]! := ⟨_, rfl⟩
          have S2 : Hid (SW encF w0 blk off (swp dk (k) (k + 1)) ((wr.setCell ⟨blk, off + iN, none⟩ (encF y)).setCell ⟨blk, off + jN, none⟩ (encF x)).drew) := by rw [hiN, hjN, hx, hy]; exact S3.out.swapped HR.out (k) (k + 1) (by omega) (by omega)
          have ca := S3.out.c1 HR.out hs1.symm (k) (by omega)
          have cb := S3.out.c1 HR.out hs1.symm (k + 1) (by omega)
          have fa := S3.out.f1 HR.out hs1.symm (k) (by omega)
          have fb := S3.out.f1 HR.out hs1.symm (k + 1) (by omega)
          obtain ⟨u, cc⟩ := S3.out.c2 HR.out hs1.symm (k) (k + 1) (by omega) (by omega) (encF y)
          rw [← hjN, ← hiN] at cc
          rw [← hx, ← hiN] at ca
          rw [← hy, ← hjN] at cb
          rw [← hiN] at fa
          rw [← hjN] at fb
          clear S3 hx hy hiN hjN hs1 hsk
          go_wp2_with fail
          go_big_region_o
          clear ca cb cc fa fb
          generalize ((wr.setCell ⟨blk, off + iN, none⟩ (encF y)).setCell ⟨blk, off + jN, none⟩ (encF x)).drew = w2 at S2 ⊢
          clear ea ec
          go_wp2_with fail
          go_roundg (i1 - (k + 1))
          case measure => omega
          case rel => exact ⟨k + 1, swp dk k (k + 1), by go_num, by omega, by omega, Nat.le_refl _, Lib.hid (by rw [size_swp]; exact hdk.out), S2, Lib.hid (HU.out.step hk1 (by have := HDS.out; omega)), Lib.hid (permIn_trans _ _ _ _ _ HP.out (swp_permIn _ _ _ _ _ (by omega) (by omega) (by omega) (by omega) (by rw [hdk.out]; omega)))⟩
        · have hkz : ¬ (k : Int) < (i : Int) - 1 := by omega
          have hkz' : ¬ (k : Int) < (i1 : Int) := by omega
          go_wp2_with fail
          (try simp only [Exit.inBlock, Exit.then])
          refine bodyPost_ret (results_none rfl _ _ _) rfl ?_
          have hki1 : k = i - 1 := by have := HI1.out; omega
          subst hki1
          exact ⟨rfl, dk, S3.out, HP.out, HU.out.sorted HM.out (by omega) hj HB.out HF1.out HF2.out⟩
set_option maxHeartbeats 8000000 in
set_option maxRecDepth 1000000 in
theorem sym_last {a m b : Nat} (d0 d : Array UInt64) (blk off cap : Nat) (w0 w : World) (ham : a < m) (hmb : b = m + 1) (ha2 : a + 1 < m) (hb : b ≤ d.size) (hsz : d.size ≤ 1000000) (R : Row1 encF w0 blk off d0) (hs : d0.size = d.size) (S : SW encF w0 blk off d w) (hA : Sd a m d) (hB : Sd m b d) :
    Calls Try.prog 50 #[.slice (some ⟨blk, off, none⟩) d.size cap, .int .i64 a, .int .i64 m, .int .i64 b, .func (.func 14) #[] #[]] w fun e w' =>
      e = .returned (.tuple #[]) ∧ ∃ d', SW encF w0 blk off d' w' ∧ PermIn a b d d' ∧ Sd a b d' := by
  have S0 := Lib.hid S
  have HR := Lib.hid R
  have HA := Lib.hid hA
  have HB := Lib.hid hB
  have mixed : Try.prog.follows .mixedOrders = true := insFl.mixed
  have eg := enters
  clear S R hA hB
  obtain ⟨ds, hds⟩ : ∃ q, q = d.size := ⟨_, rfl⟩
  rw [← hds]
  have HDS := Lib.hid hds
  have HSZ : Hid (d0.size = ds) := Lib.hid (hs.trans hds.symm)
  have HD1 : Hid (d0.size = d.size) := Lib.hid hs
  rw [← hds] at hb hsz
  clear hs hds
  have hma : ((m : Int) - (a : Int) == 1) = false := beq_eq_false_iff_ne.2 (by omega)
  have hbm : (b : Int) - (m : Int) = 1 := by omega
  have HM := Lib.hid hmb
  have m1 : m < b := by omega
  clear hmb
  go_enter Try.func50, Try.ntmps50
  go_wp2_with fail
  go_loopg [14, 15] (m - a) (fun kx si sj wr => ∃ (i j : Nat), si = .int .i64 i ∧ sj = .int .i64 j ∧ a ≤ i ∧ i ≤ j ∧ j ≤ m ∧ j - i ≤ kx ∧ Hid (SW encF w0 blk off d wr) ∧ Hid (i = a ∨ Kd d (i - 1) ≤ Kd d m) ∧ Hid (j = m ∨ Kd d m < Kd d j))
  case atStart => exact ⟨a, m, rfl, rfl, Nat.le_refl _, by omega, Nat.le_refl _, Nat.le_refl _, S0, Lib.hid (.inl rfl), Lib.hid (.inl rfl)⟩
  case round =>
    clear S0
    obtain ⟨i, j, rfl, rfl, hi, hij, hj, hmx, S1, HI, HJ⟩ := hrel
    by_cases hlt : i < j
    · have hltz : (i : Int) < (j : Int) := by omega
      go_upto_region 17 with fail
      obtain ⟨h, hh⟩ : ∃ h : Nat, h = (i + j) / 2 := ⟨_, rfl⟩
      have eh : ((i : Int) + (j : Int)) / 2 = (h : Int) := by omega
      rw [eh]
      have hh1 : i ≤ h := by omega
      have hh2 : h < j := by omega
      have hz0 : (0 : Int) ≤ (h : Int) := by omega
      have hz1 : (h : Int) < (ds : Int) := by omega
      have az0 : (0 : Int) ≤ (m : Int) := by omega
      have az1 : (m : Int) < (ds : Int) := by omega
      have hpl : m < d.size := by have := HDS.out; omega
      have hql : h < d.size := by have := HDS.out; omega
      have c1 := S1.out.c1 HR.out HD1.out.symm (m) hpl
      have c2 := S1.out.c1 HR.out HD1.out.symm (h) hql
      obtain ⟨x, hx⟩ : ∃ x, x = d[m]! := ⟨_, rfl⟩
      obtain ⟨y, hy⟩ : ∃ y, y = d[h]! := ⟨_, rfl⟩
      have HXK : Hid (Kd d (m) = ky x.toNat) := Lib.hid (by rw [hx]; rfl)
      have HYK : Hid (Kd d (h) = ky y.toNat) := Lib.hid (by rw [hy]; rfl)
      rw [← hx] at c1
      rw [← hy] at c2
      clear hx hy
      clear hh eh
      by_cases hc : ky x.toNat < ky y.toNat
      · have hd : decide (cmp (ky x.toNat) (ky y.toNat) < 0) = true := decide_eq_true (cmp_lt.2 hc)
        have HC := Lib.hid hc
        clear hc
        go_wp2_with fail
        go_quiet (first | (go_at_fn 14; refine Calls.quiet_of_same (order_any _ _ (u_lt _) (u_lt _) _)))
        go_wp2_with fail
        go_roundg (h - i)
        case measure => omega
        case rel => exact ⟨i, h, rfl, rfl, hi, hh1, by omega, Nat.le_refl _, Lib.hid (S1.out.drewN nq), HI, Lib.hid (.inr (by rw [HXK.out, HYK.out]; exact HC.out))⟩
      · have hd : decide (cmp (ky x.toNat) (ky y.toNat) < 0) = false := decide_eq_false (fun h => hc (cmp_lt.1 h))
        have HC := Lib.hid (Int.not_lt.1 hc)
        clear hc
        go_wp2_with fail
        go_quiet (first | (go_at_fn 14; refine Calls.quiet_of_same (order_any _ _ (u_lt _) (u_lt _) _)))
        go_wp2_with fail
        go_roundg (j - (h + 1))
        case measure => omega
        case rel => exact ⟨h + 1, j, by go_num, rfl, by omega, by omega, hj, Nat.le_refl _, Lib.hid (S1.out.drewN nq), Lib.hid (.inr (by rw [show h + 1 - 1 = h by omega, HXK.out, HYK.out]; exact HC.out)), HJ⟩
    · obtain rfl : i = j := by omega
      have HF1 : Hid (∀ x, a ≤ x → x < i → Kd d x ≤ Kd d m) := Lib.hid (fun x x1 x2 => by
        rcases HI.out with h | h
        · omega
        · have := HA.out.le (i := x) (j := i - 1) x1 (by omega) (by omega)
          omega)
      have HF2 : Hid (∀ x, i ≤ x → x < m → Kd d m < Kd d x) := Lib.hid (fun x x1 x2 => by
        rcases HJ.out with h | h
        · omega
        · have := HA.out.le (i := i) (j := x) (by omega) x1 x2
          omega)
      clear HI HJ hmx
      go_wp2_with fail
      go_loopg [17] (m - i) (fun kx sk wr => ∃ (k : Nat) (dk : Array UInt64), sk = .int .i64 k ∧ i ≤ k ∧ k ≤ m ∧ k - i ≤ kx ∧ Hid (dk.size = ds) ∧ Hid (SW encF w0 blk off dk wr) ∧ Hid (Dw m k d dk) ∧ Hid (PermIn a b d dk))
      case atStart => exact ⟨m, d, rfl, hj, Nat.le_refl _, Nat.le_refl _, Lib.hid HDS.out.symm, S1, Lib.hid (Dw.zero m d), Lib.hid (permIn_refl _ _ _)⟩
      case round =>
        clear S1
        obtain ⟨k, dk, rfl, hk1, hk2, hkx, hdk, S3, HU, HP⟩ := hrel
        by_cases hki : i < k
        · obtain ⟨k, rfl⟩ : ∃ q, k = q + 1 := ⟨k - 1, by omega⟩
          have hkz : (i : Int) < ((k + 1 : Nat) : Int) := by omega
          have hkz' : (i : Int) < (k : Int) + 1 := by omega
          obtain ⟨iN, hiN⟩ : ∃ q, q = k + 1 := ⟨_, rfl⟩
          obtain ⟨jN, hjN⟩ : ∃ q, q = k := ⟨_, rfl⟩
          have ea : ((k : Int) + 1).toNat = iN := by omega
          have pa : (0 : Int) ≤ (k : Int) + 1 := by omega
          have ba : (k : Int) + 1 < (ds : Int) := by omega
          have ra : IntKind.i64.wrap ((k : Int) + 1) = (k : Int) + 1 := by rw [IntKind.wrap_i64]; omega
          have ec : ((k : Int)).toNat = jN := by omega
          have pc : (0 : Int) ≤ (k : Int) := by omega
          have bc : (k : Int) < (ds : Int) := by omega
          have rc : IntKind.i64.wrap ((k : Int)) = (k : Int) := by rw [IntKind.wrap_i64]; omega
          have hs1 : d0.size = dk.size := by rw [hdk.out]; exact HSZ.out
          have hsk : dk.size = ds := hdk.out
          obtain ⟨x, hx⟩ : ∃ x, x = dk[k + 1]! := ⟨_, rfl⟩
          obtain ⟨y, hy⟩ : ∃ y, y = dk[k]! := ⟨_, rfl⟩
          have S2 : Hid (SW encF w0 blk off (swp dk (k + 1) (k)) ((wr.setCell ⟨blk, off + iN, none⟩ (encF y)).setCell ⟨blk, off + jN, none⟩ (encF x)).drew) := by rw [hiN, hjN, hx, hy]; exact S3.out.swapped HR.out (k + 1) (k) (by omega) (by omega)
          have ca := S3.out.c1 HR.out hs1.symm (k + 1) (by omega)
          have cb := S3.out.c1 HR.out hs1.symm (k) (by omega)
          have fa := S3.out.f1 HR.out hs1.symm (k + 1) (by omega)
          have fb := S3.out.f1 HR.out hs1.symm (k) (by omega)
          obtain ⟨u, cc⟩ := S3.out.c2 HR.out hs1.symm (k + 1) (k) (by omega) (by omega) (encF y)
          rw [← hiN, ← hjN] at cc
          rw [← hx, ← hiN] at ca
          rw [← hy, ← hjN] at cb
          rw [← hiN] at fa
          rw [← hjN] at fb
          clear S3 hx hy hiN hjN hs1 hsk
          go_wp2_with fail
          go_big_region_o
          clear ca cb cc fa fb
          generalize ((wr.setCell ⟨blk, off + iN, none⟩ (encF y)).setCell ⟨blk, off + jN, none⟩ (encF x)).drew = w2 at S2 ⊢
          clear ea ec
          go_wp2_with fail
          go_roundg (k - i)
          case measure => omega
          case rel => exact ⟨k, swp dk (k + 1) k, by first | rfl | go_num | (congr 1; omega), by omega, by omega, Nat.le_refl _, Lib.hid (by rw [size_swp]; exact hdk.out), S2, Lib.hid (HU.out.step (by omega) (by have := HDS.out; omega)), Lib.hid (permIn_trans _ _ _ _ _ HP.out (swp_permIn _ _ _ _ _ (by omega) (by omega) (by omega) (by omega) (by rw [hdk.out]; omega)))⟩
        · have hkz : ¬ (i : Int) < (k : Int) := by omega
          go_wp2_with fail
          (try simp only [Exit.inBlock, Exit.then])
          refine bodyPost_ret (results_none rfl _ _ _) rfl ?_
          obtain rfl : k = i := by omega
          exact ⟨rfl, dk, S3.out, HP.out, HU.out.sorted HM.out hi hj HA.out HF1.out HF2.out⟩
end Go.Proofs.Ytngboallknmepaa.Fp
