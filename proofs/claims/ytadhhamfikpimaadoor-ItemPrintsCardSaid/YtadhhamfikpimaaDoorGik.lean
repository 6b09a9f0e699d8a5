/-
  The contracts of the reference's begins, newline and Check (layer 4).
  The contract of the reference's begins (layer 4); plain facts for its Print.
-/
import Derived.Test.YtadhhamfikpimaaDoorGif
import Derived.Test.YtadhhamfikpimaaDoorGd
import Derived.Test.YtadhhamfikpimaaDoorGg
import Derived.Deep.DeepCutAuto
import Derived.Test.YtadhhamfikpimaaDoorGia
import Derived.Test.YtadhhamfikpimaaDoorGb
import Derived.Laws.Concat
namespace Go.Proofs.YtadhhamfikpimaaDoor.I
set_option linter.unusedVariables false
set_option linter.unusedSimpArgs false
open Go.RowKit
open T
open O (own_ne grown_of grown_set ne_type)

theorem byte_is (t : List UInt8) (k : Nat) (hk : k < (⟨t.toArray⟩ : ByteArray).size) (h : k < t.length) : (⟨t.toArray⟩ : ByteArray)[k] = t[k] := rfl
theorem newline_any (t : List UInt8) (w : World) (ht : t.length ≤ maxLen) :
    Calls Tryd.prog 60 #[.string ⟨t.toArray⟩] w fun e w' => e = .returned (.bool (t.contains 10)) ∧ w = w' := by
  unfold maxLen at ht
  obtain ⟨nl, hnl⟩ : ∃ b, b = t.contains 10 := ⟨_, rfl⟩
  rw [← hnl]
  have HNL := Lib.hid hnl
  clear hnl
  have hsz : (⟨t.toArray⟩ : ByteArray).size = t.length := list_size t
  obtain ⟨x, hx⟩ : ∃ x : ByteArray, x = ⟨t.toArray⟩ := ⟨_, rfl⟩
  have HB : Hid (∀ k (hk : k < x.size) (h : k < t.length), x[k] = t[k]) := Lib.hid (by subst hx; exact fun k hk h => byte_is t k hk h)
  rw [← hx] at hsz ⊢
  clear hx
  go_enter Tryd.func60, Tryd.ntmps60
  go_wp2
  go_loop [3] (fun i => ∃ k : Nat, k ≤ x.size ∧ i = .int .i64 k ∧ Hid (∀ j (hj : j < t.length), j < k → t[j] ≠ 10)) (fun i => x.size - (intOf i).toNat)
  case atStart => exact ⟨0, Nat.zero_le _, rfl, Lib.hid (fun j _ h => absurd h (by omega))⟩
  case round =>
    obtain ⟨k, hk, rfl, HR⟩ := hrel
    by_cases hlt : k < x.size
    · have hkt : k < t.length := by omega
      have HE := Lib.hid (HB.out k hlt hkt)
      by_cases h10 : (x[k].toNat : Int) = 10
      · have hb10 : ((x[k].toNat : Int) == 10) = true := by simp [h10]
        have HY := Lib.hid (show nl = true by
          rw [HNL.out, List.contains_iff_mem]
          have : t[k] = 10 := by rw [← HE.out]; exact UInt8.toNat_inj.1 (show x[k].toNat = 10 by omega)
          rw [← this]; exact List.getElem_mem hkt)
        clear h10
        go_wp2
        go_ret
        exact ⟨ret_of (by rw [HY.out]; rfl), rfl⟩
      · have hb10 : ((x[k].toNat : Int) == 10) = false := by simp [h10]
        have HN := Lib.hid (show t[k] ≠ 10 by
          intro e
          rw [← HE.out] at e
          exact h10 (by rw [e]; rfl))
        clear h10
        go_wp2
        go_round
        case rel =>
          refine ⟨k + 1, by omega, by go_num, Lib.hid (fun j hj hjk => ?_)⟩
          by_cases e : j = k
          · subst e; exact HN.out
          · exact HR.out j hj (by omega)
        case measure => simp [intOf]; omega
    · obtain rfl : k = x.size := by omega
      have HN := Lib.hid (show nl = false by
        rw [HNL.out, ← Bool.not_eq_true, List.contains_iff_mem]
        intro hm
        obtain ⟨j, hj, e⟩ := List.getElem_of_mem hm
        exact HR.out j hj (by omega) e)
      go_wp2
      go_ret
      exact ⟨ret_of (by rw [HN.out]; rfl), rfl⟩

def NwC (x : ByteArray) (b : Bool) : Prop := ∀ w : World, Calls Tryd.prog 60 #[.string x] w fun e w' => e = .returned (.bool b) ∧ w = w'
theorem NwC.call {x : ByteArray} {b : Bool} (h : NwC x b) (w : World) : Calls Tryd.prog 60 #[.string x] w fun e w' => e = .returned (.bool b) ∧ w = w' := h w
def RRc (l : Int) (c : Nat) (b : Bool) : Prop := ∀ w : World, Calls Tryd.prog 59 #[L.lab l c] w fun e w' => e = .returned (.bool b) ∧ Below w.heap.size w w'
theorem RRc.call {l : Int} {c : Nat} {b : Bool} (h : RRc l c b) (w : World) : Calls Tryd.prog 59 #[L.lab l c] w fun e w' => e = .returned (.bool b) ∧ Below w.heap.size w w' := h w
theorem rright_c {l : Int} {c : Nat} {b : Bool} (h : L.rightB l = b) : RRc l c b := fun w => by rw [← h]; exact L.refRight_any l c w
def RBc (l m : Int) (c d : Nat) (b : Bool) : Prop := ∀ w : World, Calls Tryd.prog 54 #[L.lab l c, L.lab m d] w fun e w' => e = .returned (.bool b) ∧ Below w.heap.size w w'
theorem RBc.call {l m : Int} {c d : Nat} {b : Bool} (h : RBc l m c d b) (w : World) : Calls Tryd.prog 54 #[L.lab l c, L.lab m d] w fun e w' => e = .returned (.bool b) ∧ Below w.heap.size w w' := h w
theorem rbelow_c {l m : Int} {c d : Nat} {b : Bool} (h : L.belowB l c m d = b) (hc : c < 18446744073709551616) : RBc l m c d b := fun w => by rw [← h]; exact L.refBelow_any l m c d w hc
/-- A cell that is there. -/
structure CellAt (w : World) (b o : Nat) (v : Value) : Prop where
  lt : b < w.heap.size
  at0 : w.cell? ⟨b, o, none⟩ = some v
theorem CellAt.kept {w w' : World} {b o : Nat} {v : Value} (h : CellAt w b o v) (hb : Below w.heap.size w w') : w'.cell? ⟨b, o, none⟩ = some v := (hb.cell h.lt).trans h.at0
theorem CellAt.on {w w' : World} {b o : Nat} {v : Value} (h : CellAt w b o v) (hb : Below w.heap.size w w') : CellAt w' b o v := ⟨Nat.lt_of_lt_of_le h.lt hb.size, h.kept hb⟩

set_option maxRecDepth 100000 in
set_option maxHeartbeats 4000000 in
theorem refCheck_any (A : Option Addr) (cap : Nat) (l : List It) (fl : Lb) (w : World) (hfl : fl.2 < 18446744073709551616) (hA : ItemsIn w A l) (hok : ItemsOk l) :
    Calls Tryd.prog 29 #[.slice A l.length cap, .agg #[.int .i64 fl.1, .int .u64 (fl.2 : Int)]] w fun e w' => e = .returned (.int .i64 (check fl l : Int)) ∧ Below w.heap.size w w' := by
  have HFL := Lib.hid hfl
  have HOK := Lib.hid hok
  have hlm := hok.len
  unfold maxLen at hlm
  have HC : Hid (check fl l = if limitsB l = false then 4 else if labelledB fl l = false then 5 else if formedB l = false then 3 else 0) := Lib.hid rfl
  obtain ⟨v, hv⟩ : ∃ v, v = check fl l := ⟨_, rfl⟩
  rw [← hv]
  have HV := Lib.hid (hv.trans HC.out)
  obtain ⟨W0, hW0⟩ : ∃ W : World, W = w.alloc (.cells #[.int .i64 fl.1, .int .u64 (fl.2 : Int)] 40) := ⟨_, rfl⟩
  have HB0 := Lib.hid (show Below w.heap.size w W0 by rw [hW0]; exact alloc1 _ _)
  have HX0 := Lib.hid (show W0.heap[w.heap.size]? = some (.cells #[.int .i64 fl.1, .int .u64 (fl.2 : Int)] 40 (0, 0)) by rw [hW0]; exact heap_alloc_new w _)
  have HA := Lib.hid (hA.below HB0.out)
  obtain ⟨xb, hxb⟩ : ∃ xb, xb = w.heap.size := ⟨_, rfl⟩
  rw [← hxb] at HX0
  have hx0 : xb < W0.heap.size := L.blk_lt HX0.out
  have HXB := Lib.hid hxb
  clear hA hok hfl hv HC
  go_enter Tryd.func29, Tryd.ntmps29
  by_cases hbig : 1073741824 < l.length
  · have HE := Lib.hid (show v = 4 by rw [HV.out, if_pos (by unfold limitsB; rw [decide_eq_false (by omega), Bool.false_and])])
    have hbi : 1073741824 < (l.length : Int) := by omega
    go_wp2_with fail
    rw [← hW0]
    go_ret
    exact ⟨ret_of (by rw [HE.out]; rfl), HB0.out⟩
  have hbi : ¬ 1073741824 < (l.length : Int) := by omega
  have HL := Lib.hid (show limitsB l = l.all shortB by unfold limitsB; rw [decide_eq_true (by omega), Bool.true_and]; rfl)
  have HL2 := Lib.hid (show labelledB fl l = l.all (labOk fl) from rfl)
  have HL3 := Lib.hid (show formedB l = l.all formOk from rfl)
  go_wp2_with fail
  rw [← hW0, ← hxb]
  clear hW0 hxb hbig hbi
  go_loopg [5] l.length (fun m i wr => ∃ k : Nat, k ≤ l.length ∧ i = .int .i64 k ∧ l.length - k ≤ m ∧ Hid (∀ j (hj : j < l.length), j < k → shortB l[j] = true) ∧ wr = W0)
  case atStart => exact ⟨0, Nat.zero_le _, rfl, by omega, Lib.hid fun j hj h => absurd h (by omega), rfl⟩
  case round =>
    obtain ⟨k, hk, rfl, hm, HJ, hwe⟩ := hrel
    subst wr
    by_cases hlt : k < l.length
    · obtain ⟨bk, off, hAe, hbk, hI⟩ := HA.out (by omega)
      subst hAe
      obtain ⟨c0, c1, c2, c3, c4, c5⟩ := hI k hlt
      have htx := HOK.out.tx _ (List.getElem_mem hlt)
      obtain ⟨x, hx⟩ : ∃ x : ByteArray, x = ⟨l[k].tx.toArray⟩ := ⟨_, rfl⟩
      have hxs : x.size = l[k].tx.length := by rw [hx, list_size]
      rw [← hx] at c4
      have h0k : (0 : Int) ≤ (k : Int) := by omega
      have hki : (k : Int) < (l.length : Int) := by omega
      unfold maxLen at htx
      by_cases h2 : 200 < x.size
      · have hd : 200 < (x.size : Int) := by omega
        have HN := Lib.hid (show v = 4 by rw [HV.out, HL.out, all_no (p := shortB) hlt (decide_eq_false (by omega)), if_pos rfl])
        generalize l[k] = y at *
        clear hI hx hxs h2
        go_wp2_with fail
        go_ret
        exact ⟨ret_of (by rw [HN.out]; rfl), HB0.out⟩
      · have hd : ¬ 200 < (x.size : Int) := by omega
        have HS := Lib.hid (all_step (p := shortB) hlt HJ.out (decide_eq_true (by omega)))
        generalize l[k] = y at *
        clear hI hx hxs h2
        go_wp2_with fail
        go_roundg (l.length - (k + 1))
        case rel => exact ⟨k + 1, by omega, by go_num, Nat.le_refl _, HS, rfl⟩
        case measure => omega
    · obtain rfl : k = l.length := by omega
      have HV2 := Lib.hid (show v = if labelledB fl l = false then 5 else if formedB l = false then 3 else 0 by rw [HV.out, HL.out, all_yes (p := shortB) HJ.out]; rfl)
      clear HV HJ hk hm
      go_wp2_with fail
      go_loopg [6] l.length (fun m i wr => ∃ k : Nat, k ≤ l.length ∧ i = .int .i64 k ∧ l.length - k ≤ m ∧ Hid (Below W0.heap.size W0 wr) ∧ Hid (∀ j (hj : j < l.length), j < k → labOk fl l[j] = true))
      case atStart => exact ⟨0, Nat.zero_le _, rfl, by omega, Lib.hid (Below.refl _ _), Lib.hid fun j hj h => absurd h (by omega)⟩
      case round =>
        obtain ⟨k, hk, rfl, hm, HBR, HJ⟩ := hrel
        by_cases hlt : k < l.length
        · obtain ⟨bk, off, hAe, hbk, hI⟩ := HA.out (by omega)
          subst hAe
          obtain ⟨c0, c1, c2, c3, c4, c5⟩ := items_cells hI HBR.out hbk hlt
          have hbk2 : bk < wr.heap.size := by have := HBR.out.size; omega
          have h0k : (0 : Int) ≤ (k : Int) := by omega
          have hki : (k : Int) < (l.length : Int) := by omega
          have ic1 := Lib.hid (CellAt.mk hbk2 c1)
          have ic2 := Lib.hid (CellAt.mk hbk2 c2)
          have HX := Lib.hid ((HBR.out.block xb hx0).trans HX0.out)
          have hlk : labOk fl l[k] = (L.rightB l[k].lv && L.belowB fl.1 fl.2 l[k].lv l[k].ct) := rfl
          cases hr : L.rightB l[k].lv with
          | false =>
            have HN := Lib.hid (show v = 5 by rw [HV2.out, HL2.out, all_no (p := labOk fl) hlt (by rw [hlk, hr]; rfl), if_pos rfl])
            have HRB := Lib.hid hr
            clear hI hlk hr c0 c1 c2 c3 c4 c5
            generalize l[k].lv = lv at *
            generalize l[k].ct = ct at *
            go_wp2_with fail
            refine wp_region_held_drew (S := (Keeps wr)) (by kernel_rfl) (keeps_drew _) (fun hH0 => ?_)
            refine wpAnyH_take (i := 0) (oi := { dst := some 32, op := Go.Op.move (Go.Operand.tmp 0), type := 46, pos := "ref.go:98", after := #[], guard := none }) (v := ?_) rfl (by kernel_rfl) (by kernel_rfl) (by kernel_rfl) (fun _ _ _ h => h) (Or.inl ⟨by rfl, ?_⟩) hH0 ?_
            rotate_left
            · (intro wz hSz; (try dsimp only at hSz); go_simp; try with_reducible rfl)
            simp only [Act.put, List.setIfInBounds_toArray, List.set_cons_zero, List.set_cons_succ]
            refine wpAnyH_take (i := 1) (oi := { dst := some 33, op := Go.Op.move (Go.Operand.tmp 6), type := 3, pos := "ref.go:98", after := #[], guard := none }) (v := ?_) rfl (by kernel_rfl) (by kernel_rfl) (by kernel_rfl) (fun _ _ _ h => h) (Or.inl ⟨by rfl, ?_⟩) hH0 ?_
            rotate_left
            · (intro wz hSz; (try dsimp only at hSz); go_simp; try with_reducible rfl)
            simp only [Act.put, List.setIfInBounds_toArray, List.set_cons_zero, List.set_cons_succ]
            refine wpAnyH_take (i := 2) (oi := { dst := some 34, op := Go.Op.indexAddr 46 (Go.Operand.tmp 32) (Go.Operand.tmp 33), type := 0, pos := "ref.go:98", after := #[{ on := 0, ground := Go.Ground.data }, { on := 1, ground := Go.Ground.data }], guard := none }) (v := ?_) rfl (by kernel_rfl) (by kernel_rfl) (by kernel_rfl) (fun _ _ _ h => h) (Or.inl ⟨by rfl, ?_⟩) hH0 ?_
            rotate_left
            · (intro wz hSz; (try dsimp only at hSz); go_simp; try with_reducible rfl)
            simp only [Act.put, List.setIfInBounds_toArray, List.set_cons_zero, List.set_cons_succ]
            refine wpAnyH_take (i := 3) (oi := { dst := some 35, op := Go.Op.fieldAddr 53 (Go.Operand.tmp 34) 1, type := 0, pos := "ref.go:98", after := #[{ on := 2, ground := Go.Ground.data }], guard := none }) (v := ?_) rfl (by kernel_rfl) (by kernel_rfl) (by kernel_rfl) (fun _ _ _ h => h) (Or.inl ⟨by rfl, ?_⟩) hH0 ?_
            rotate_left
            · (intro wz hSz; (try dsimp only at hSz); go_simp; try with_reducible rfl)
            simp only [Act.put, List.setIfInBounds_toArray, List.set_cons_zero, List.set_cons_succ]
            refine wpAnyH_take (i := 4) (oi := { dst := some 36, op := Go.Op.load 40 (Go.Operand.tmp 35), type := 40, pos := "ref.go:98", after := #[{ on := 3, ground := Go.Ground.data }], guard := none }) (v := ?_) rfl (by kernel_rfl) (by kernel_rfl) (by kernel_rfl) (fun _ _ _ h => h) (Or.inl ⟨by rfl, ?_⟩) hH0 ?_
            rotate_left
            · (intro wz hSz; have hcz := True.intro; have z1 := ic1.out.kept hSz; have z2 := ic2.out.kept hSz; go_simp; try with_reducible rfl)
            simp only [Act.put, List.setIfInBounds_toArray, List.set_cons_zero, List.set_cons_succ]
            refine wpAnyH_ready (rs := [5]) (by kernel_rfl) (by simp) ?_
            refine AllReadyH.cons (o := { dst := some 37, op := Go.Op.call { callee := Go.Callee.value (Go.Operand.func 59), args := #[Go.Operand.tmp 36], argTypes := #[40] }, type := 4, pos := "ref.go:98", after := #[{ on := 4, ground := Go.Ground.data }], guard := none }) rfl (fun K hK => ?_) AllReadyH.nil
            go_simp
            with_reducible refine ((rright_c HRB.out).call _).mono ?_
            rintro r wq1 ⟨rfl, hbq⟩
            go_wp2_with fail
            refine hK.out _ _ (Keeps.trans hH0 hbq) (fun hJ => ?_)
            refine wpAnyH_more (S' := Keeps wq1) (fun z hz => Keeps.trans hJ hz) _ _ _ _ ?_
            replace HBR := Lib.hid (HBR.out.trans (Below.mono hJ HBR.out.size))
            replace HX := Lib.hid ((Below.block hJ _ (L.blk_lt HX.out)).trans HX.out)
            replace ic1 := Lib.hid (ic1.out.on hJ)
            replace ic2 := Lib.hid (ic2.out.on hJ)
            have hH1 : Keeps wq1 wq1 := Below.refl _ _
            clear hK K hbq hH0 hJ
            refine wpAnyH_take (i := 6) (oi := { dst := some 38, op := Go.Op.unOp Go.UnOp.not 4 (Go.Operand.tmp 37), type := 4, pos := "ref.go:98", after := #[{ on := 5, ground := Go.Ground.data }], guard := none }) (v := ?_) rfl (by kernel_rfl) (by kernel_rfl) (by kernel_rfl) (fun _ _ _ h => h) (Or.inl ⟨by rfl, ?_⟩) hH1 ?_
            rotate_left
            · (intro wz hSz; (try dsimp only at hSz); go_simp; try with_reducible rfl)
            simp only [Act.put, List.setIfInBounds_toArray, List.set_cons_zero, List.set_cons_succ]
            refine wpAnyH_take (i := 7) (oi := { dst := some 39, op := Go.Op.move (Go.Operand.tmp 38), type := 4, pos := "ref.go:98", after := #[{ on := 6, ground := Go.Ground.data }, { on := 5, ground := Go.Ground.chain }], guard := none }) (v := ?_) rfl (by kernel_rfl) (by kernel_rfl) (by kernel_rfl) (fun _ _ _ h => h) (Or.inl ⟨by rfl, ?_⟩) hH1 ?_
            rotate_left
            · (intro wz hSz; (try dsimp only at hSz); go_simp; try with_reducible rfl)
            simp only [Act.put, List.setIfInBounds_toArray, List.set_cons_zero, List.set_cons_succ]
            refine wpAnyH_take (i := 8) (oi := { dst := some 40, op := Go.Op.load 40 (Go.Operand.tmp 3), type := 40, pos := "ref.go:98", after := #[{ on := 7, ground := Go.Ground.guard }], guard := some (7, false) }) (v := undef) rfl (by kernel_rfl) (by kernel_rfl) (by kernel_rfl) (fun _ _ _ h => h) (Or.inr ⟨by rfl, rfl⟩) hH1 ?_
            simp only [Act.put, List.setIfInBounds_toArray, List.set_cons_zero, List.set_cons_succ]
            refine wpAnyH_take (i := 9) (oi := { dst := some 41, op := Go.Op.move (Go.Operand.tmp 0), type := 46, pos := "ref.go:98", after := #[{ on := 7, ground := Go.Ground.guard }], guard := some (7, false) }) (v := undef) rfl (by kernel_rfl) (by kernel_rfl) (by kernel_rfl) (fun _ _ _ h => h) (Or.inr ⟨by rfl, rfl⟩) hH1 ?_
            simp only [Act.put, List.setIfInBounds_toArray, List.set_cons_zero, List.set_cons_succ]
            refine wpAnyH_take (i := 10) (oi := { dst := some 42, op := Go.Op.move (Go.Operand.tmp 6), type := 3, pos := "ref.go:98", after := #[{ on := 7, ground := Go.Ground.guard }], guard := some (7, false) }) (v := undef) rfl (by kernel_rfl) (by kernel_rfl) (by kernel_rfl) (fun _ _ _ h => h) (Or.inr ⟨by rfl, rfl⟩) hH1 ?_
            simp only [Act.put, List.setIfInBounds_toArray, List.set_cons_zero, List.set_cons_succ]
            refine wpAnyH_take (i := 11) (oi := { dst := some 43, op := Go.Op.indexAddr 46 (Go.Operand.tmp 41) (Go.Operand.tmp 42), type := 0, pos := "ref.go:98", after := #[{ on := 9, ground := Go.Ground.data }, { on := 10, ground := Go.Ground.data }, { on := 7, ground := Go.Ground.guard }], guard := some (7, false) }) (v := undef) rfl (by kernel_rfl) (by kernel_rfl) (by kernel_rfl) (fun _ _ _ h => h) (Or.inr ⟨by rfl, rfl⟩) hH1 ?_
            simp only [Act.put, List.setIfInBounds_toArray, List.set_cons_zero, List.set_cons_succ]
            refine wpAnyH_take (i := 12) (oi := { dst := some 44, op := Go.Op.fieldAddr 53 (Go.Operand.tmp 43) 1, type := 0, pos := "ref.go:98", after := #[{ on := 11, ground := Go.Ground.data }, { on := 7, ground := Go.Ground.guard }], guard := some (7, false) }) (v := undef) rfl (by kernel_rfl) (by kernel_rfl) (by kernel_rfl) (fun _ _ _ h => h) (Or.inr ⟨by rfl, rfl⟩) hH1 ?_
            simp only [Act.put, List.setIfInBounds_toArray, List.set_cons_zero, List.set_cons_succ]
            refine wpAnyH_take (i := 13) (oi := { dst := some 45, op := Go.Op.load 40 (Go.Operand.tmp 44), type := 40, pos := "ref.go:98", after := #[{ on := 12, ground := Go.Ground.data }, { on := 7, ground := Go.Ground.guard }], guard := some (7, false) }) (v := undef) rfl (by kernel_rfl) (by kernel_rfl) (by kernel_rfl) (fun _ _ _ h => h) (Or.inr ⟨by rfl, rfl⟩) hH1 ?_
            simp only [Act.put, List.setIfInBounds_toArray, List.set_cons_zero, List.set_cons_succ]
            refine wpAnyH_take (i := 14) (oi := { dst := some 46, op := Go.Op.call { callee := Go.Callee.value (Go.Operand.func 54), args := #[Go.Operand.tmp 40, Go.Operand.tmp 45], argTypes := #[40, 40] }, type := 4, pos := "ref.go:98", after := #[{ on := 8, ground := Go.Ground.data }, { on := 13, ground := Go.Ground.data }, { on := 7, ground := Go.Ground.chain }, { on := 7, ground := Go.Ground.guard }], guard := some (7, false) }) (v := undef) rfl (by kernel_rfl) (by kernel_rfl) (by kernel_rfl) (fun _ _ _ h => h) (Or.inr ⟨by rfl, rfl⟩) hH1 ?_
            simp only [Act.put, List.setIfInBounds_toArray, List.set_cons_zero, List.set_cons_succ]
            refine wpAnyH_take (i := 15) (oi := { dst := some 47, op := Go.Op.unOp Go.UnOp.not 4 (Go.Operand.tmp 46), type := 4, pos := "ref.go:98", after := #[{ on := 14, ground := Go.Ground.data }, { on := 7, ground := Go.Ground.guard }], guard := some (7, false) }) (v := undef) rfl (by kernel_rfl) (by kernel_rfl) (by kernel_rfl) (fun _ _ _ h => h) (Or.inr ⟨by rfl, rfl⟩) hH1 ?_
            simp only [Act.put, List.setIfInBounds_toArray, List.set_cons_zero, List.set_cons_succ]
            refine wpAnyH_take (i := 16) (oi := { dst := some 48, op := Go.Op.pick (Go.Operand.tmp 39) (Go.Operand.const (Go.Value.bool true)) (Go.Operand.tmp 47), type := 4, pos := "ref.go:98", after := #[{ on := 7, ground := Go.Ground.data }, { on := 15, ground := Go.Ground.data }], guard := none }) (v := ?_) rfl (by kernel_rfl) (by kernel_rfl) (by kernel_rfl) (fun _ _ _ h => h) (Or.inl ⟨by rfl, ?_⟩) hH1 ?_
            rotate_left
            · (intro wz hSz; (try dsimp only at hSz); go_simp; try with_reducible rfl)
            simp only [Act.put, List.setIfInBounds_toArray, List.set_cons_zero, List.set_cons_succ]
            refine wpAnyH_done (by kernel_rfl) ?_ _
            go_wp2_with fail
            have HBZ := Lib.hid (HB0.out.trans (HBR.out.mono HB0.out.size))
            go_ret
            exact ⟨ret_of (by rw [HN.out]; rfl), HBZ.out⟩
          | true =>
            have HRB := Lib.hid hr
            cases hb : L.belowB fl.1 fl.2 l[k].lv l[k].ct with
            | false =>
              have HN := Lib.hid (show v = 5 by rw [HV2.out, HL2.out, all_no (p := labOk fl) hlt (by rw [hlk, hr, hb]; rfl), if_pos rfl])
              have HBL := Lib.hid hb
              clear hI hlk hr hb c0 c1 c2 c3 c4 c5
              generalize l[k].lv = lv at *
              generalize l[k].ct = ct at *
              go_wp2_with fail
              refine wp_region_held_drew (S := (Keeps wr)) (by kernel_rfl) (keeps_drew _) (fun hH0 => ?_)
              refine wpAnyH_take (i := 0) (oi := { dst := some 32, op := Go.Op.move (Go.Operand.tmp 0), type := 46, pos := "ref.go:98", after := #[], guard := none }) (v := ?_) rfl (by kernel_rfl) (by kernel_rfl) (by kernel_rfl) (fun _ _ _ h => h) (Or.inl ⟨by rfl, ?_⟩) hH0 ?_
              rotate_left
              · (intro wz hSz; (try dsimp only at hSz); go_simp; try with_reducible rfl)
              simp only [Act.put, List.setIfInBounds_toArray, List.set_cons_zero, List.set_cons_succ]
              refine wpAnyH_take (i := 1) (oi := { dst := some 33, op := Go.Op.move (Go.Operand.tmp 6), type := 3, pos := "ref.go:98", after := #[], guard := none }) (v := ?_) rfl (by kernel_rfl) (by kernel_rfl) (by kernel_rfl) (fun _ _ _ h => h) (Or.inl ⟨by rfl, ?_⟩) hH0 ?_
              rotate_left
              · (intro wz hSz; (try dsimp only at hSz); go_simp; try with_reducible rfl)
              simp only [Act.put, List.setIfInBounds_toArray, List.set_cons_zero, List.set_cons_succ]
              refine wpAnyH_take (i := 2) (oi := { dst := some 34, op := Go.Op.indexAddr 46 (Go.Operand.tmp 32) (Go.Operand.tmp 33), type := 0, pos := "ref.go:98", after := #[{ on := 0, ground := Go.Ground.data }, { on := 1, ground := Go.Ground.data }], guard := none }) (v := ?_) rfl (by kernel_rfl) (by kernel_rfl) (by kernel_rfl) (fun _ _ _ h => h) (Or.inl ⟨by rfl, ?_⟩) hH0 ?_
              rotate_left
              · (intro wz hSz; (try dsimp only at hSz); go_simp; try with_reducible rfl)
              simp only [Act.put, List.setIfInBounds_toArray, List.set_cons_zero, List.set_cons_succ]
              refine wpAnyH_take (i := 3) (oi := { dst := some 35, op := Go.Op.fieldAddr 53 (Go.Operand.tmp 34) 1, type := 0, pos := "ref.go:98", after := #[{ on := 2, ground := Go.Ground.data }], guard := none }) (v := ?_) rfl (by kernel_rfl) (by kernel_rfl) (by kernel_rfl) (fun _ _ _ h => h) (Or.inl ⟨by rfl, ?_⟩) hH0 ?_
              rotate_left
              · (intro wz hSz; (try dsimp only at hSz); go_simp; try with_reducible rfl)
              simp only [Act.put, List.setIfInBounds_toArray, List.set_cons_zero, List.set_cons_succ]
              refine wpAnyH_take (i := 4) (oi := { dst := some 36, op := Go.Op.load 40 (Go.Operand.tmp 35), type := 40, pos := "ref.go:98", after := #[{ on := 3, ground := Go.Ground.data }], guard := none }) (v := ?_) rfl (by kernel_rfl) (by kernel_rfl) (by kernel_rfl) (fun _ _ _ h => h) (Or.inl ⟨by rfl, ?_⟩) hH0 ?_
              rotate_left
              · (intro wz hSz; have hcz := True.intro; have z1 := ic1.out.kept hSz; have z2 := ic2.out.kept hSz; go_simp; try with_reducible rfl)
              simp only [Act.put, List.setIfInBounds_toArray, List.set_cons_zero, List.set_cons_succ]
              refine wpAnyH_ready (rs := [5]) (by kernel_rfl) (by simp) ?_
              refine AllReadyH.cons (o := { dst := some 37, op := Go.Op.call { callee := Go.Callee.value (Go.Operand.func 59), args := #[Go.Operand.tmp 36], argTypes := #[40] }, type := 4, pos := "ref.go:98", after := #[{ on := 4, ground := Go.Ground.data }], guard := none }) rfl (fun K hK => ?_) AllReadyH.nil
              go_simp
              with_reducible refine ((rright_c HRB.out).call _).mono ?_
              rintro r wq1 ⟨rfl, hbq⟩
              go_wp2_with fail
              refine hK.out _ _ (Keeps.trans hH0 hbq) (fun hJ => ?_)
              refine wpAnyH_more (S' := Keeps wq1) (fun z hz => Keeps.trans hJ hz) _ _ _ _ ?_
              replace HBR := Lib.hid (HBR.out.trans (Below.mono hJ HBR.out.size))
              replace HX := Lib.hid ((Below.block hJ _ (L.blk_lt HX.out)).trans HX.out)
              replace ic1 := Lib.hid (ic1.out.on hJ)
              replace ic2 := Lib.hid (ic2.out.on hJ)
              have hH1 : Keeps wq1 wq1 := Below.refl _ _
              clear hK K hbq hH0 hJ
              refine wpAnyH_take (i := 6) (oi := { dst := some 38, op := Go.Op.unOp Go.UnOp.not 4 (Go.Operand.tmp 37), type := 4, pos := "ref.go:98", after := #[{ on := 5, ground := Go.Ground.data }], guard := none }) (v := ?_) rfl (by kernel_rfl) (by kernel_rfl) (by kernel_rfl) (fun _ _ _ h => h) (Or.inl ⟨by rfl, ?_⟩) hH1 ?_
              rotate_left
              · (intro wz hSz; (try dsimp only at hSz); go_simp; try with_reducible rfl)
              simp only [Act.put, List.setIfInBounds_toArray, List.set_cons_zero, List.set_cons_succ]
              refine wpAnyH_take (i := 7) (oi := { dst := some 39, op := Go.Op.move (Go.Operand.tmp 38), type := 4, pos := "ref.go:98", after := #[{ on := 6, ground := Go.Ground.data }, { on := 5, ground := Go.Ground.chain }], guard := none }) (v := ?_) rfl (by kernel_rfl) (by kernel_rfl) (by kernel_rfl) (fun _ _ _ h => h) (Or.inl ⟨by rfl, ?_⟩) hH1 ?_
              rotate_left
              · (intro wz hSz; (try dsimp only at hSz); go_simp; try with_reducible rfl)
              simp only [Act.put, List.setIfInBounds_toArray, List.set_cons_zero, List.set_cons_succ]
              refine wpAnyH_take (i := 8) (oi := { dst := some 40, op := Go.Op.load 40 (Go.Operand.tmp 3), type := 40, pos := "ref.go:98", after := #[{ on := 7, ground := Go.Ground.guard }], guard := some (7, false) }) (v := ?_) rfl (by kernel_rfl) (by kernel_rfl) (by kernel_rfl) (fun _ _ _ h => h) (Or.inl ⟨by rfl, ?_⟩) hH1 ?_
              rotate_left
              · (intro wz hSz; have hcz := True.intro; obtain ⟨b0, b1⟩ := O.lab_cells ((Below.block hSz _ (L.blk_lt HX.out)).trans HX.out); go_simp; try with_reducible rfl)
              simp only [Act.put, List.setIfInBounds_toArray, List.set_cons_zero, List.set_cons_succ]
              refine wpAnyH_take (i := 9) (oi := { dst := some 41, op := Go.Op.move (Go.Operand.tmp 0), type := 46, pos := "ref.go:98", after := #[{ on := 7, ground := Go.Ground.guard }], guard := some (7, false) }) (v := ?_) rfl (by kernel_rfl) (by kernel_rfl) (by kernel_rfl) (fun _ _ _ h => h) (Or.inl ⟨by rfl, ?_⟩) hH1 ?_
              rotate_left
              · (intro wz hSz; (try dsimp only at hSz); go_simp; try with_reducible rfl)
              simp only [Act.put, List.setIfInBounds_toArray, List.set_cons_zero, List.set_cons_succ]
              refine wpAnyH_take (i := 10) (oi := { dst := some 42, op := Go.Op.move (Go.Operand.tmp 6), type := 3, pos := "ref.go:98", after := #[{ on := 7, ground := Go.Ground.guard }], guard := some (7, false) }) (v := ?_) rfl (by kernel_rfl) (by kernel_rfl) (by kernel_rfl) (fun _ _ _ h => h) (Or.inl ⟨by rfl, ?_⟩) hH1 ?_
              rotate_left
              · (intro wz hSz; (try dsimp only at hSz); go_simp; try with_reducible rfl)
              simp only [Act.put, List.setIfInBounds_toArray, List.set_cons_zero, List.set_cons_succ]
              refine wpAnyH_take (i := 11) (oi := { dst := some 43, op := Go.Op.indexAddr 46 (Go.Operand.tmp 41) (Go.Operand.tmp 42), type := 0, pos := "ref.go:98", after := #[{ on := 9, ground := Go.Ground.data }, { on := 10, ground := Go.Ground.data }, { on := 7, ground := Go.Ground.guard }], guard := some (7, false) }) (v := ?_) rfl (by kernel_rfl) (by kernel_rfl) (by kernel_rfl) (fun _ _ _ h => h) (Or.inl ⟨by rfl, ?_⟩) hH1 ?_
              rotate_left
              · (intro wz hSz; (try dsimp only at hSz); go_simp; try with_reducible rfl)
              simp only [Act.put, List.setIfInBounds_toArray, List.set_cons_zero, List.set_cons_succ]
              refine wpAnyH_take (i := 12) (oi := { dst := some 44, op := Go.Op.fieldAddr 53 (Go.Operand.tmp 43) 1, type := 0, pos := "ref.go:98", after := #[{ on := 11, ground := Go.Ground.data }, { on := 7, ground := Go.Ground.guard }], guard := some (7, false) }) (v := ?_) rfl (by kernel_rfl) (by kernel_rfl) (by kernel_rfl) (fun _ _ _ h => h) (Or.inl ⟨by rfl, ?_⟩) hH1 ?_
              rotate_left
              · (intro wz hSz; (try dsimp only at hSz); go_simp; try with_reducible rfl)
              simp only [Act.put, List.setIfInBounds_toArray, List.set_cons_zero, List.set_cons_succ]
              refine wpAnyH_take (i := 13) (oi := { dst := some 45, op := Go.Op.load 40 (Go.Operand.tmp 44), type := 40, pos := "ref.go:98", after := #[{ on := 12, ground := Go.Ground.data }, { on := 7, ground := Go.Ground.guard }], guard := some (7, false) }) (v := ?_) rfl (by kernel_rfl) (by kernel_rfl) (by kernel_rfl) (fun _ _ _ h => h) (Or.inl ⟨by rfl, ?_⟩) hH1 ?_
              rotate_left
              · (intro wz hSz; have hcz := True.intro; have z1 := ic1.out.kept hSz; have z2 := ic2.out.kept hSz; go_simp; try with_reducible rfl)
              simp only [Act.put, List.setIfInBounds_toArray, List.set_cons_zero, List.set_cons_succ]
              refine wpAnyH_ready (rs := [14]) (by kernel_rfl) (by simp) ?_
              refine AllReadyH.cons (o := { dst := some 46, op := Go.Op.call { callee := Go.Callee.value (Go.Operand.func 54), args := #[Go.Operand.tmp 40, Go.Operand.tmp 45], argTypes := #[40, 40] }, type := 4, pos := "ref.go:98", after := #[{ on := 8, ground := Go.Ground.data }, { on := 13, ground := Go.Ground.data }, { on := 7, ground := Go.Ground.chain }, { on := 7, ground := Go.Ground.guard }], guard := some (7, false) }) rfl (fun K hK => ?_) AllReadyH.nil
              go_simp
              with_reducible refine ((rbelow_c HBL.out HFL.out).call _).mono ?_
              rintro r wq2 ⟨rfl, hbq⟩
              go_wp2_with fail
              refine hK.out _ _ (Keeps.trans hH1 hbq) (fun hJ => ?_)
              refine wpAnyH_more (S' := Keeps wq2) (fun z hz => Keeps.trans hJ hz) _ _ _ _ ?_
              replace HBR := Lib.hid (HBR.out.trans (Below.mono hJ HBR.out.size))
              replace HX := Lib.hid ((Below.block hJ _ (L.blk_lt HX.out)).trans HX.out)
              replace ic1 := Lib.hid (ic1.out.on hJ)
              replace ic2 := Lib.hid (ic2.out.on hJ)
              have hH2 : Keeps wq2 wq2 := Below.refl _ _
              clear hK K hbq hH1 hJ
              refine wpAnyH_take (i := 15) (oi := { dst := some 47, op := Go.Op.unOp Go.UnOp.not 4 (Go.Operand.tmp 46), type := 4, pos := "ref.go:98", after := #[{ on := 14, ground := Go.Ground.data }, { on := 7, ground := Go.Ground.guard }], guard := some (7, false) }) (v := ?_) rfl (by kernel_rfl) (by kernel_rfl) (by kernel_rfl) (fun _ _ _ h => h) (Or.inl ⟨by rfl, ?_⟩) hH2 ?_
              rotate_left
              · (intro wz hSz; (try dsimp only at hSz); go_simp; try with_reducible rfl)
              simp only [Act.put, List.setIfInBounds_toArray, List.set_cons_zero, List.set_cons_succ]
              refine wpAnyH_take (i := 16) (oi := { dst := some 48, op := Go.Op.pick (Go.Operand.tmp 39) (Go.Operand.const (Go.Value.bool true)) (Go.Operand.tmp 47), type := 4, pos := "ref.go:98", after := #[{ on := 7, ground := Go.Ground.data }, { on := 15, ground := Go.Ground.data }], guard := none }) (v := ?_) rfl (by kernel_rfl) (by kernel_rfl) (by kernel_rfl) (fun _ _ _ h => h) (Or.inl ⟨by rfl, ?_⟩) hH2 ?_
              rotate_left
              · (intro wz hSz; (try dsimp only at hSz); go_simp; try with_reducible rfl)
              simp only [Act.put, List.setIfInBounds_toArray, List.set_cons_zero, List.set_cons_succ]
              refine wpAnyH_done (by kernel_rfl) ?_ _
              go_wp2_with fail
              have HBZ := Lib.hid (HB0.out.trans (HBR.out.mono HB0.out.size))
              go_ret
              exact ⟨ret_of (by rw [HN.out]; rfl), HBZ.out⟩
            | true =>
              have HS := Lib.hid (all_step (p := labOk fl) hlt HJ.out (by rw [hlk, hr, hb]; rfl))
              have HBL := Lib.hid hb
              clear hI hlk hr hb c0 c1 c2 c3 c4 c5
              generalize l[k].lv = lv at *
              generalize l[k].ct = ct at *
              go_wp2_with fail
              refine wp_region_held_drew (S := (Keeps wr)) (by kernel_rfl) (keeps_drew _) (fun hH0 => ?_)
              refine wpAnyH_take (i := 0) (oi := { dst := some 32, op := Go.Op.move (Go.Operand.tmp 0), type := 46, pos := "ref.go:98", after := #[], guard := none }) (v := ?_) rfl (by kernel_rfl) (by kernel_rfl) (by kernel_rfl) (fun _ _ _ h => h) (Or.inl ⟨by rfl, ?_⟩) hH0 ?_
              rotate_left
              · (intro wz hSz; (try dsimp only at hSz); go_simp; try with_reducible rfl)
              simp only [Act.put, List.setIfInBounds_toArray, List.set_cons_zero, List.set_cons_succ]
              refine wpAnyH_take (i := 1) (oi := { dst := some 33, op := Go.Op.move (Go.Operand.tmp 6), type := 3, pos := "ref.go:98", after := #[], guard := none }) (v := ?_) rfl (by kernel_rfl) (by kernel_rfl) (by kernel_rfl) (fun _ _ _ h => h) (Or.inl ⟨by rfl, ?_⟩) hH0 ?_
              rotate_left
              · (intro wz hSz; (try dsimp only at hSz); go_simp; try with_reducible rfl)
              simp only [Act.put, List.setIfInBounds_toArray, List.set_cons_zero, List.set_cons_succ]
              refine wpAnyH_take (i := 2) (oi := { dst := some 34, op := Go.Op.indexAddr 46 (Go.Operand.tmp 32) (Go.Operand.tmp 33), type := 0, pos := "ref.go:98", after := #[{ on := 0, ground := Go.Ground.data }, { on := 1, ground := Go.Ground.data }], guard := none }) (v := ?_) rfl (by kernel_rfl) (by kernel_rfl) (by kernel_rfl) (fun _ _ _ h => h) (Or.inl ⟨by rfl, ?_⟩) hH0 ?_
              rotate_left
              · (intro wz hSz; (try dsimp only at hSz); go_simp; try with_reducible rfl)
              simp only [Act.put, List.setIfInBounds_toArray, List.set_cons_zero, List.set_cons_succ]
              refine wpAnyH_take (i := 3) (oi := { dst := some 35, op := Go.Op.fieldAddr 53 (Go.Operand.tmp 34) 1, type := 0, pos := "ref.go:98", after := #[{ on := 2, ground := Go.Ground.data }], guard := none }) (v := ?_) rfl (by kernel_rfl) (by kernel_rfl) (by kernel_rfl) (fun _ _ _ h => h) (Or.inl ⟨by rfl, ?_⟩) hH0 ?_
              rotate_left
              · (intro wz hSz; (try dsimp only at hSz); go_simp; try with_reducible rfl)
              simp only [Act.put, List.setIfInBounds_toArray, List.set_cons_zero, List.set_cons_succ]
              refine wpAnyH_take (i := 4) (oi := { dst := some 36, op := Go.Op.load 40 (Go.Operand.tmp 35), type := 40, pos := "ref.go:98", after := #[{ on := 3, ground := Go.Ground.data }], guard := none }) (v := ?_) rfl (by kernel_rfl) (by kernel_rfl) (by kernel_rfl) (fun _ _ _ h => h) (Or.inl ⟨by rfl, ?_⟩) hH0 ?_
              rotate_left
              · (intro wz hSz; have hcz := True.intro; have z1 := ic1.out.kept hSz; have z2 := ic2.out.kept hSz; go_simp; try with_reducible rfl)
              simp only [Act.put, List.setIfInBounds_toArray, List.set_cons_zero, List.set_cons_succ]
              refine wpAnyH_ready (rs := [5]) (by kernel_rfl) (by simp) ?_
              refine AllReadyH.cons (o := { dst := some 37, op := Go.Op.call { callee := Go.Callee.value (Go.Operand.func 59), args := #[Go.Operand.tmp 36], argTypes := #[40] }, type := 4, pos := "ref.go:98", after := #[{ on := 4, ground := Go.Ground.data }], guard := none }) rfl (fun K hK => ?_) AllReadyH.nil
              go_simp
              with_reducible refine ((rright_c HRB.out).call _).mono ?_
              rintro r wq1 ⟨rfl, hbq⟩
              go_wp2_with fail
              refine hK.out _ _ (Keeps.trans hH0 hbq) (fun hJ => ?_)
              refine wpAnyH_more (S' := Keeps wq1) (fun z hz => Keeps.trans hJ hz) _ _ _ _ ?_
              replace HBR := Lib.hid (HBR.out.trans (Below.mono hJ HBR.out.size))
              replace HX := Lib.hid ((Below.block hJ _ (L.blk_lt HX.out)).trans HX.out)
              replace ic1 := Lib.hid (ic1.out.on hJ)
              replace ic2 := Lib.hid (ic2.out.on hJ)
              have hH1 : Keeps wq1 wq1 := Below.refl _ _
              clear hK K hbq hH0 hJ
              refine wpAnyH_take (i := 6) (oi := { dst := some 38, op := Go.Op.unOp Go.UnOp.not 4 (Go.Operand.tmp 37), type := 4, pos := "ref.go:98", after := #[{ on := 5, ground := Go.Ground.data }], guard := none }) (v := ?_) rfl (by kernel_rfl) (by kernel_rfl) (by kernel_rfl) (fun _ _ _ h => h) (Or.inl ⟨by rfl, ?_⟩) hH1 ?_
              rotate_left
              · (intro wz hSz; (try dsimp only at hSz); go_simp; try with_reducible rfl)
              simp only [Act.put, List.setIfInBounds_toArray, List.set_cons_zero, List.set_cons_succ]
              refine wpAnyH_take (i := 7) (oi := { dst := some 39, op := Go.Op.move (Go.Operand.tmp 38), type := 4, pos := "ref.go:98", after := #[{ on := 6, ground := Go.Ground.data }, { on := 5, ground := Go.Ground.chain }], guard := none }) (v := ?_) rfl (by kernel_rfl) (by kernel_rfl) (by kernel_rfl) (fun _ _ _ h => h) (Or.inl ⟨by rfl, ?_⟩) hH1 ?_
              rotate_left
              · (intro wz hSz; (try dsimp only at hSz); go_simp; try with_reducible rfl)
              simp only [Act.put, List.setIfInBounds_toArray, List.set_cons_zero, List.set_cons_succ]
              refine wpAnyH_take (i := 8) (oi := { dst := some 40, op := Go.Op.load 40 (Go.Operand.tmp 3), type := 40, pos := "ref.go:98", after := #[{ on := 7, ground := Go.Ground.guard }], guard := some (7, false) }) (v := ?_) rfl (by kernel_rfl) (by kernel_rfl) (by kernel_rfl) (fun _ _ _ h => h) (Or.inl ⟨by rfl, ?_⟩) hH1 ?_
              rotate_left
              · (intro wz hSz; have hcz := True.intro; obtain ⟨b0, b1⟩ := O.lab_cells ((Below.block hSz _ (L.blk_lt HX.out)).trans HX.out); go_simp; try with_reducible rfl)
              simp only [Act.put, List.setIfInBounds_toArray, List.set_cons_zero, List.set_cons_succ]
              refine wpAnyH_take (i := 9) (oi := { dst := some 41, op := Go.Op.move (Go.Operand.tmp 0), type := 46, pos := "ref.go:98", after := #[{ on := 7, ground := Go.Ground.guard }], guard := some (7, false) }) (v := ?_) rfl (by kernel_rfl) (by kernel_rfl) (by kernel_rfl) (fun _ _ _ h => h) (Or.inl ⟨by rfl, ?_⟩) hH1 ?_
              rotate_left
              · (intro wz hSz; (try dsimp only at hSz); go_simp; try with_reducible rfl)
              simp only [Act.put, List.setIfInBounds_toArray, List.set_cons_zero, List.set_cons_succ]
              refine wpAnyH_take (i := 10) (oi := { dst := some 42, op := Go.Op.move (Go.Operand.tmp 6), type := 3, pos := "ref.go:98", after := #[{ on := 7, ground := Go.Ground.guard }], guard := some (7, false) }) (v := ?_) rfl (by kernel_rfl) (by kernel_rfl) (by kernel_rfl) (fun _ _ _ h => h) (Or.inl ⟨by rfl, ?_⟩) hH1 ?_
              rotate_left
              · (intro wz hSz; (try dsimp only at hSz); go_simp; try with_reducible rfl)
              simp only [Act.put, List.setIfInBounds_toArray, List.set_cons_zero, List.set_cons_succ]
              refine wpAnyH_take (i := 11) (oi := { dst := some 43, op := Go.Op.indexAddr 46 (Go.Operand.tmp 41) (Go.Operand.tmp 42), type := 0, pos := "ref.go:98", after := #[{ on := 9, ground := Go.Ground.data }, { on := 10, ground := Go.Ground.data }, { on := 7, ground := Go.Ground.guard }], guard := some (7, false) }) (v := ?_) rfl (by kernel_rfl) (by kernel_rfl) (by kernel_rfl) (fun _ _ _ h => h) (Or.inl ⟨by rfl, ?_⟩) hH1 ?_
              rotate_left
              · (intro wz hSz; (try dsimp only at hSz); go_simp; try with_reducible rfl)
              simp only [Act.put, List.setIfInBounds_toArray, List.set_cons_zero, List.set_cons_succ]
              refine wpAnyH_take (i := 12) (oi := { dst := some 44, op := Go.Op.fieldAddr 53 (Go.Operand.tmp 43) 1, type := 0, pos := "ref.go:98", after := #[{ on := 11, ground := Go.Ground.data }, { on := 7, ground := Go.Ground.guard }], guard := some (7, false) }) (v := ?_) rfl (by kernel_rfl) (by kernel_rfl) (by kernel_rfl) (fun _ _ _ h => h) (Or.inl ⟨by rfl, ?_⟩) hH1 ?_
              rotate_left
              · (intro wz hSz; (try dsimp only at hSz); go_simp; try with_reducible rfl)
              simp only [Act.put, List.setIfInBounds_toArray, List.set_cons_zero, List.set_cons_succ]
              refine wpAnyH_take (i := 13) (oi := { dst := some 45, op := Go.Op.load 40 (Go.Operand.tmp 44), type := 40, pos := "ref.go:98", after := #[{ on := 12, ground := Go.Ground.data }, { on := 7, ground := Go.Ground.guard }], guard := some (7, false) }) (v := ?_) rfl (by kernel_rfl) (by kernel_rfl) (by kernel_rfl) (fun _ _ _ h => h) (Or.inl ⟨by rfl, ?_⟩) hH1 ?_
              rotate_left
              · (intro wz hSz; have hcz := True.intro; have z1 := ic1.out.kept hSz; have z2 := ic2.out.kept hSz; go_simp; try with_reducible rfl)
              simp only [Act.put, List.setIfInBounds_toArray, List.set_cons_zero, List.set_cons_succ]
              refine wpAnyH_ready (rs := [14]) (by kernel_rfl) (by simp) ?_
              refine AllReadyH.cons (o := { dst := some 46, op := Go.Op.call { callee := Go.Callee.value (Go.Operand.func 54), args := #[Go.Operand.tmp 40, Go.Operand.tmp 45], argTypes := #[40, 40] }, type := 4, pos := "ref.go:98", after := #[{ on := 8, ground := Go.Ground.data }, { on := 13, ground := Go.Ground.data }, { on := 7, ground := Go.Ground.chain }, { on := 7, ground := Go.Ground.guard }], guard := some (7, false) }) rfl (fun K hK => ?_) AllReadyH.nil
              go_simp
              with_reducible refine ((rbelow_c HBL.out HFL.out).call _).mono ?_
              rintro r wq2 ⟨rfl, hbq⟩
              go_wp2_with fail
              refine hK.out _ _ (Keeps.trans hH1 hbq) (fun hJ => ?_)
              refine wpAnyH_more (S' := Keeps wq2) (fun z hz => Keeps.trans hJ hz) _ _ _ _ ?_
              replace HBR := Lib.hid (HBR.out.trans (Below.mono hJ HBR.out.size))
              replace HX := Lib.hid ((Below.block hJ _ (L.blk_lt HX.out)).trans HX.out)
              replace ic1 := Lib.hid (ic1.out.on hJ)
              replace ic2 := Lib.hid (ic2.out.on hJ)
              have hH2 : Keeps wq2 wq2 := Below.refl _ _
              clear hK K hbq hH1 hJ
              refine wpAnyH_take (i := 15) (oi := { dst := some 47, op := Go.Op.unOp Go.UnOp.not 4 (Go.Operand.tmp 46), type := 4, pos := "ref.go:98", after := #[{ on := 14, ground := Go.Ground.data }, { on := 7, ground := Go.Ground.guard }], guard := some (7, false) }) (v := ?_) rfl (by kernel_rfl) (by kernel_rfl) (by kernel_rfl) (fun _ _ _ h => h) (Or.inl ⟨by rfl, ?_⟩) hH2 ?_
              rotate_left
              · (intro wz hSz; (try dsimp only at hSz); go_simp; try with_reducible rfl)
              simp only [Act.put, List.setIfInBounds_toArray, List.set_cons_zero, List.set_cons_succ]
              refine wpAnyH_take (i := 16) (oi := { dst := some 48, op := Go.Op.pick (Go.Operand.tmp 39) (Go.Operand.const (Go.Value.bool true)) (Go.Operand.tmp 47), type := 4, pos := "ref.go:98", after := #[{ on := 7, ground := Go.Ground.data }, { on := 15, ground := Go.Ground.data }], guard := none }) (v := ?_) rfl (by kernel_rfl) (by kernel_rfl) (by kernel_rfl) (fun _ _ _ h => h) (Or.inl ⟨by rfl, ?_⟩) hH2 ?_
              rotate_left
              · (intro wz hSz; (try dsimp only at hSz); go_simp; try with_reducible rfl)
              simp only [Act.put, List.setIfInBounds_toArray, List.set_cons_zero, List.set_cons_succ]
              refine wpAnyH_done (by kernel_rfl) ?_ _
              go_wp2_with fail
              go_roundg (l.length - (k + 1))
              case rel => exact ⟨k + 1, by omega, by go_num, Nat.le_refl _, HBR, HS⟩
              case measure => omega
        · obtain rfl : k = l.length := by omega
          have HV3 := Lib.hid (show v = if formedB l = false then 3 else 0 by rw [HV2.out, HL2.out, all_yes (p := labOk fl) HJ.out]; rfl)
          clear HV2 HJ hk hm
          have HBW := Lib.hid HBR.out
          clear HBR
          generalize wr = w1 at *
          go_wp2_with fail
          go_loopg [7] l.length (fun m i wr => ∃ k : Nat, k ≤ l.length ∧ i = .int .i64 k ∧ l.length - k ≤ m ∧ Hid (Below W0.heap.size W0 wr) ∧ Hid (∀ j (hj : j < l.length), j < k → formOk l[j] = true))
          case atStart => exact ⟨0, Nat.zero_le _, rfl, by omega, HBW, Lib.hid fun j hj h => absurd h (by omega)⟩
          case round =>
            obtain ⟨k, hk, rfl, hm, HBR, HJ⟩ := hrel
            by_cases hlt : k < l.length
            · obtain ⟨bk, off, hAe, hbk, hI⟩ := HA.out (by omega)
              subst hAe
              obtain ⟨c0, c1, c2, c3, c4, c5⟩ := items_cells hI HBR.out hbk hlt
              have h0k : (0 : Int) ≤ (k : Int) := by omega
              have hki : (k : Int) < (l.length : Int) := by omega
              have htx := HOK.out.tx _ (List.getElem_mem hlt)
              have HNW := Lib.hid (fun w => newline_any l[k].tx w htx)
              obtain ⟨x, hx⟩ : ∃ x : ByteArray, x = ⟨l[k].tx.toArray⟩ := ⟨_, rfl⟩
              have hxs : x.size = l[k].tx.length := by rw [hx, list_size]
              rw [← hx] at c4 HNW
              have hbz := HBR.out.size
              have hne : bk ≠ wr.heap.size := by omega
              have d3 : (wr.alloc (.cells #[.string x, .bool l[k].ba] 51)).cell? ⟨bk, off + k * 6 + 3, none⟩ = some (.bool l[k].an) := ((alloc1 wr _).cell (by show bk < _; omega)).trans c3
              obtain ⟨w2, hw2⟩ : ∃ W : World, W = wr.alloc (.cells #[.string x, .bool l[k].ba] 51) := ⟨_, rfl⟩
              have HB2 := Lib.hid (show Below W0.heap.size W0 w2 by rw [hw2]; exact HBR.out.trans ((alloc1 _ _).mono HBR.out.size))
              have hfm : formOk l[k] = (!(l[k].an && (!l[k].tx.isEmpty || l[k].ba)) && !((l[k].ba && l[k].tx.isEmpty) || l[k].tx.contains 10)) := rfl
              have hem : l[k].tx.isEmpty = decide (x.size = 0) := by rw [hxs]; cases l[k].tx <;> simp
              rw [hem] at hfm
              obtain ⟨fm, hfme⟩ : ∃ b, b = formOk l[k] := ⟨_, rfl⟩
              have HN : Hid (fm = false → v = 3) := Lib.hid fun e => by rw [HV3.out, HL3.out, all_no (p := formOk) hlt (by rw [← hfme, e]), if_pos rfl]
              have HS : Hid (fm = true → ∀ j (hj : j < l.length), j < k + 1 → formOk l[j] = true) := Lib.hid fun e => all_step (p := formOk) hlt HJ.out (by rw [← hfme, e])
              have HNW2 : Hid (NwC x (l[k].tx.contains 10)) := Lib.hid HNW.out
              rw [← hfme] at hfm
              have hxz : x.size ≤ 9223372036854775807 := by rw [hxs]; exact htx
              clear hI hx hfme hem HNW htx hxs
              generalize l[k].an = an at *
              generalize l[k].ba = ba at *
              generalize l[k].tx.contains 10 = nl at *
              generalize l[k].id = id at *
              generalize l[k].lv = lv at *
              generalize l[k].ct = ct at *
              by_cases hz : x.size = 0
              · rw [decide_eq_true hz] at hfm
                cases nl <;> cases ba <;> cases an <;> simp at hfm
                all_goals first | (have HF := Lib.hid (HN.out hfm); clear HN HS) | (have HF := Lib.hid (HS.out hfm); clear HN HS)
                all_goals
                  clear hfm
                  go_wp2_with fail
                  with_reducible refine (HNW2.out.call _).mono ?_
                  rintro e w9 ⟨rfl, rfl⟩
                  go_wp2_with fail
                  first
                    | (go_ret
                       refine ⟨ret_of (by rw [HF.out]; rfl), ?_⟩
                       rw [← hw2]
                       exact HB0.out.trans (HB2.out.mono HB0.out.size))
                    | (go_roundg (l.length - (k + 1))
                       case rel =>
                         rw [← hw2]
                         exact ⟨k + 1, by omega, by go_num, Nat.le_refl _, HB2, HF⟩
                       case measure => omega)
              · have hzp : 0 < x.size := by omega
                rw [decide_eq_false hz] at hfm
                cases nl <;> cases ba <;> cases an <;> simp at hfm
                all_goals first | (have HF := Lib.hid (HN.out hfm); clear HN HS) | (have HF := Lib.hid (HS.out hfm); clear HN HS)
                all_goals
                  clear hfm
                  go_wp2_with fail
                  with_reducible refine (HNW2.out.call _).mono ?_
                  rintro e w9 ⟨rfl, rfl⟩
                  go_wp2_with fail
                  first
                    | (go_ret
                       refine ⟨ret_of (by rw [HF.out]; rfl), ?_⟩
                       rw [← hw2]
                       exact HB0.out.trans (HB2.out.mono HB0.out.size))
                    | (go_roundg (l.length - (k + 1))
                       case rel =>
                         rw [← hw2]
                         exact ⟨k + 1, by omega, by go_num, Nat.le_refl _, HB2, HF⟩
                       case measure => omega)
            · obtain rfl : k = l.length := by omega
              have HE := Lib.hid (show v = 0 by rw [HV3.out, HL3.out, all_yes (p := formOk) HJ.out]; rfl)
              go_wp2_with fail
              go_ret
              exact ⟨ret_of (by rw [HE.out]; rfl), HB0.out.trans (HBR.out.mono HB0.out.size)⟩
end Go.Proofs.YtadhhamfikpimaaDoor.I

namespace Go.Proofs.YtadhhamfikpimaaDoor.I
set_option linter.unusedVariables false
set_option linter.unusedSimpArgs false
open Go.RowKit
open T

theorem begins_any (t : List UInt8) (w : World) (ht : t.length ≤ maxLen) :
    Calls Tryd.prog 55 #[.string ⟨t.toArray⟩, .string ⟨#[64, 64]⟩] w fun e w' => e = .returned (.bool (decide (kSign <+: t))) ∧ w = w' := by
  unfold maxLen at ht
  have hsz : (⟨t.toArray⟩ : ByteArray).size = t.length := list_size t
  obtain ⟨b, hb⟩ : ∃ b, b = decide (kSign <+: t) := ⟨_, rfl⟩
  rw [← hb]
  have HB := Lib.hid hb
  clear hb
  by_cases h2 : 2 ≤ t.length
  · obtain ⟨x, hx⟩ : ∃ x : ByteArray, x = ⟨t.toArray⟩ := ⟨_, rfl⟩
    have HX := Lib.hid hx
    rw [← hx] at hsz ⊢
    clear hx
    have h2i : (2 : Int) ≤ (x.size : Int) := by omega
    go_enter Tryd.func55, Tryd.ntmps55
    go_wp2_with fail
    go_ret
    have HE := Lib.hid (show b = ((x.extract 0 2).toList == [64, 64]) by
      rw [HB.out, HX.out, L.extract_take, Lib.toList_data, list_data, list_data, Bool.eq_iff_iff, decide_eq_true_iff, beq_iff_eq, List.prefix_iff_eq_take]
      exact eq_comm)
    exact ⟨ret_of (by rw [HE.out]; rfl), rfl⟩
  · have HF := Lib.hid (show b = false by
      rw [HB.out, decide_eq_false_iff_not]
      intro h
      have := h.length_le
      simp [kSign] at this
      omega)
    obtain ⟨x, hx⟩ : ∃ x : ByteArray, x = ⟨t.toArray⟩ := ⟨_, rfl⟩
    rw [← hx] at hsz ⊢
    clear hx
    have h2i : ¬ (2 : Int) ≤ (x.size : Int) := by omega
    go_enter Tryd.func55, Tryd.ntmps55
    go_wp2_with fail
    go_ret
    exact ⟨ret_of (by rw [HF.out]; rfl), rfl⟩
def RBgC (x : ByteArray) (b : Bool) : Prop := ∀ w : World, Calls Tryd.prog 55 #[.string x, .string ⟨#[64, 64]⟩] w fun e w' => e = .returned (.bool b) ∧ w = w'
theorem RBgC.call {x : ByteArray} {b : Bool} (h : RBgC x b) (w : World) : Calls Tryd.prog 55 #[.string x, .string ⟨#[64, 64]⟩] w fun e w' => e = .returned (.bool b) ∧ w = w' := h w
theorem cat_is {a b : ByteArray} (ha : a.data.toList.length ≤ 4000000) (hb : b.data.toList.length ≤ 4000000) : ∃ z : ByteArray, (∀ w : World, (Op.stringOp .add a b).run Tryd.prog w = .ok (.string z) w) ∧ z.data.toList = a.data.toList ++ b.data.toList :=
  ⟨a ++ b, fun w => run_string_add_sum w a b (by rw [Lib.size_eq, Lib.size_eq]; omega), by simp⟩
/-- Lines as bytes. -/
def J (ls : List (List UInt8)) : List UInt8 := P.join (plain ls)
theorem J_nil : J [] = [] := rfl
theorem J_append (a b : List (List UInt8)) : J (a ++ b) = J a ++ J b := by simp [J, join_plain]
theorem J_cons (t : List UInt8) (r : List (List UInt8)) : J (t :: r) = t ++ [10] ++ J r := by simp [J, join_plain]
theorem J_print (fl : Lb) (l : List It) : printBytes fl l = J (outOf [fl] l) := rfl
theorem J_bound (fl : Lb) (l : List It) (hl : l.length ≤ 400) (h : ∀ x ∈ l, x.tx.length ≤ 200) : (J (outOf [fl] l)).length ≤ 2000000 := Nat.le_trans (P.join_length _) (bulk_print fl l hl h)
theorem pre_len {a b T : List UInt8} (h : a ++ b = T) (hT : T.length ≤ 2000000) : a.length ≤ 2000000 := by rw [← h, List.length_append] at hT; omega
/-- Does the reference end the innermost region ahead of an item of this label? -/
def popB (a : Lb) : List Lb → Bool
  | [] => false
  | t :: r => !L.belowB t.1 t.2 a.1 a.2 || (decide (15 ≤ r.length) && decide (t ≠ a))
theorem popB_yes {a fl t : Lb} {r : List Lb} (hs : Stk fl ((t :: r) ++ [fl])) (h : popB a (t :: r) = true) : popTo a ((t :: r) ++ [fl]) = popTo a (r ++ [fl]) := by
  rw [List.cons_append, popTo, if_neg]
  rintro ⟨h1, h2⟩
  have hf := hs.few
  simp at hf
  simp only [popB, h1, Bool.not_true, Bool.false_or, Bool.and_eq_true, decide_eq_true_eq] at h
  exact h2 ⟨by simp; omega, h.2⟩
theorem popB_no {a fl : Lb} {os : List Lb} (hb : L.belowB fl.1 fl.2 a.1 a.2 = true) (h : popB a os = false) : popTo a (os ++ [fl]) = os ++ [fl] := by
  cases os with
  | nil => show popTo a [fl] = [fl]; rw [popTo, if_pos ⟨hb, by simp⟩]
  | cons t r =>
    rw [List.cons_append, popTo, if_pos]
    simp only [popB, Bool.or_eq_false_iff, Bool.not_eq_false', Bool.and_eq_false_iff, decide_eq_false_iff_not, Decidable.not_not] at h
    refine ⟨h.1, fun h2 => ?_⟩
    have hl : r.length + 1 = 16 := by simpa using h2.1
    rcases h.2 with h3 | h3
    · omega
    · exact h2.2 h3
theorem out_pop {x : It} {t : Lb} {op : List Lb} {rest : List It} (h : popTo x.lb (t :: op) = popTo x.lb op) : outOf (t :: op) (x :: rest) = kEnd :: outOf op (x :: rest) := by
  have hl := popTo_le x.lb op
  rw [outOf, outOf]
  have e1 : ends (t :: op) x.lb = kEnd :: ends op x.lb := by
    unfold ends
    rw [h, List.length_cons, show op.length + 1 - (popTo x.lb op).length = (op.length - (popTo x.lb op).length) + 1 by omega, List.replicate_succ]
  have e2 : opens (t :: op) x.lb = opens op x.lb := by unfold opens; rw [h]
  have e3 : opened (t :: op) x.lb = opened op x.lb := by unfold opened; rw [h]
  rw [e1, e2, e3, List.cons_append]
theorem out_same {x : It} {op : List Lb} {rest : List It} (h : popTo x.lb op = op) (hh : op.head? = some x.lb) : outOf op (x :: rest) = putLines x ++ outOf op rest := by
  have e1 : ends op x.lb = [] := by unfold ends; rw [h]; simp
  have e2 : opens op x.lb = [] := by unfold opens; rw [h, if_pos hh]
  have e3 : opened op x.lb = op := by unfold opened; rw [h, if_pos hh]
  rw [outOf, e1, e2, e3, List.nil_append, List.nil_append]
theorem out_new {x : It} {op : List Lb} {rest : List It} (h : popTo x.lb op = op) (hh : ¬ op.head? = some x.lb) : outOf op (x :: rest) = (kBegin ++ L.print x.lv x.ct) :: (putLines x ++ outOf (x.lb :: op) rest) := by
  have e1 : ends op x.lb = [] := by unfold ends; rw [h]; simp
  have e2 : opens op x.lb = [kBegin ++ L.print x.lv x.ct] := by unfold opens; rw [h, if_neg hh]; rfl
  have e3 : opened op x.lb = x.lb :: op := by unfold opened; rw [h, if_neg hh]
  rw [outOf, e1, e2, e3, List.nil_append]; rfl
theorem out_end (os : List Lb) (fl : Lb) : outOf (os ++ [fl]) [] = List.replicate os.length kEnd := by rw [outOf]; simp
end Go.Proofs.YtadhhamfikpimaaDoor.I
