/-
  Likenesses as lines: the program's and the reference's Print.
  The reference's Print and Same; the first forty lines, the first eight texts.
  What must be whatever is asked (layer 23).
  What the second form's bound on the bulk of the arguments gives: bounds on lengths.
  Arguments that are bytes or lines, opened: their values, what their cells hold, and a bound on them by their bulk.
  Stretches of a text, plain.
-/
import Derived.Test.YtfndiggpnkjacaaDoorGzk
import Derived.Test.YtfndiggpnkjacaaDoorGza
import Derived.Test.YtfndiggpnkjacaaDoorGzc
import Derived.Test.YtfndiggpnkjacaaDoorGzb
import Derived.Lib.AppendStr
import Derived.BigQuiet
import Derived.Test.YtfndiggpnkjacaaDoorRows
import Derived.Lib.Strings
import Derived.Deep.SlicePairs
namespace Go.Proofs.YtfndiggpnkjacaaDoor.Rk
set_option linter.unusedVariables false
set_option linter.unusedSimpArgs false
open Go.RowKit Go.Sort Go.Shelf
open T
open I (alloc1 own_at own_below)


open Fp (fV isN isnan_any mille_any rmille_any ml ml_le)
attribute [local go_sem] run_store_fk
attribute [-go_sem] Go.Builtin.append_

/-- A score's text, a likeness's line, and all of them. -/
def sc (x : UInt64) : List UInt8 := if isN x.toNat then [45] else P.decimal (ml x.toNat)
def prk (xs : List Kx) : List UInt8 := xs.flatMap fun x => P.decimal x.1 ++ [32] ++ sc x.2 ++ [10]
theorem sc_len (x : UInt64) : (sc x).length ≤ 10 := by
  unfold sc
  split
  · simp
  · exact P.decimal_length _
theorem prk_len : ∀ xs : List Kx, (prk xs).length ≤ 22 * xs.length
  | [] => by simp [prk]
  | x :: r => by
    have ih := prk_len r
    have h1 := P.decimal_length x.1
    have h2 := sc_len x.2
    unfold prk at ih ⊢
    rw [List.flatMap_cons, List.length_append]
    simp only [List.length_append, List.length_cons, List.length_nil]
    omega
theorem prk_take {xs : List Kx} {k : Nat} (h : k < xs.length) : prk (xs.take (k + 1)) = prk (xs.take k) ++ (P.decimal xs[k].1 ++ [32] ++ sc xs[k].2 ++ [10]) := by
  rw [List.take_succ_eq_append_getElem h]
  unfold prk
  rw [List.flatMap_append]
  simp only [List.flatMap_cons, List.flatMap_nil, List.append_nil]
theorem cat2 {a b : ByteArray} (h : a.data.toList.length + b.data.toList.length ≤ 9223372036854775807) : ∃ z : ByteArray, (∀ w : World, (Op.stringOp .add a b).run Tryd.prog w = .ok (.string z) w) ∧ z.data.toList = a.data.toList ++ b.data.toList :=
  ⟨a ++ b, fun w => run_string_add_sum w a b (by rw [Lib.size_eq, Lib.size_eq]; omega), by simp⟩
set_option maxRecDepth 100000 in
set_option maxHeartbeats 1000000 in
theorem told_any (x : UInt64) (w : World) (ht : Tab w) : Calls Tryd.prog 37 #[fV x.toNat] w fun e w' => e = .returned (.string ⟨(sc x).toArray⟩) ∧ Below w.heap.size w w' := by
  have hx := u_lt x
  cases nx : isN x.toNat
  · have HS := Lib.hid (show sc x = P.decimal (ml x.toNat) by simp [sc, nx])
    have hl := ml_le x.toNat
    have HM := Lib.hid (fun W => mille_any x.toNat hx W)
    have HD := Lib.hid (fun (W : World) (h : Tab W) => decimal_any (ml x.toNat) W (by omega) (by omega) h)
    have HT := Lib.hid ht
    clear hl ht
    generalize ml x.toNat = m at *
    go_enter Tryd.func37, Tryd.ntmps37
    go_wp2_with (first | (go_at_call 32; refine (isnan_any _ _).mono ?_; rintro e w' ⟨rfl, rfl⟩; (try rw [nx])) | (go_at_call 50; refine (HM.out _).mono ?_; rintro e w' ⟨rfl, rfl⟩) | (go_at_call 36; refine (HD.out _ (by first | exact HT.out | exact (by assumption))).mono ?_; rintro e w2 ⟨rfl, hb2⟩))
    go_ret
    exact ⟨by rw [HS.out]; rfl, hb2⟩
  · have HS := Lib.hid (show sc x = [45] by simp [sc, nx])
    clear ht
    go_enter Tryd.func37, Tryd.ntmps37
    go_wp2_with ((go_at_call 32; refine (isnan_any _ _).mono ?_; rintro e w' ⟨rfl, rfl⟩; (try rw [nx])))
    go_ret
    exact ⟨by rw [HS.out]; rfl, Below.refl _ _⟩
/-- What Print comes to. -/
def PkEnd (w : World) (b : List UInt8) (e : Ending) (w' : World) : Prop := ∃ A cap, e = .returned (.slice A b.length cap) ∧ BytesIn w' A b ∧ Below w.heap.size w w'
/-- Places that are numbers of a machine. -/
def KOk (xs : List Kx) : Prop := ∀ x ∈ xs, -9223372036854775808 ≤ x.1 ∧ x.1 ≤ 9223372036854775807
theorem bytes_own {w : World} {base : Nat} {A : Option Addr} {cap : Nat} {xs : List UInt8} (h : w.ownsRow base 5 1 (.slice A xs.length cap) xs.length (byteCells xs)) : BytesIn w A xs := fun hp => by
  obtain ⟨g, hA, _, hlt, hc⟩ := own_at h hp
  refine ⟨g, 0, hA, hlt, fun j hj => ?_⟩
  rw [Nat.zero_add]
  exact hc j _ (by simp [byteCells, hj])
set_option maxRecDepth 100000 in
set_option maxHeartbeats 4000000 in
theorem print_any (A : Option Addr) (xs : List Kx) (c : Nat) (w : World) (hA : LksIn w A xs) (hl : xs.length ≤ 60) (hk : KOk xs) (ht : Tab w) :
    Calls Tryd.prog 21 #[.slice A xs.length c] w (PkEnd w (prk xs)) := by
  obtain ⟨i0, hi0, hz0, hz1, hz2⟩ := info_parts infoByte
  have HA := Lib.hid hA
  have HKO := Lib.hid hk
  have HT := Lib.hid ht
  clear hA hk ht
  go_enter Tryd.func21, Tryd.ntmps21
  go_wp2_with fail
  go_loopg [3, 8] xs.length (fun n v i wr => ∃ (k : Nat) (t : List UInt8) (u : Value), k ≤ xs.length ∧ i = .int .i64 (k : Int) ∧ u = v ∧ xs.length - k ≤ n ∧ Hid (t = prk (xs.take k)) ∧ Hid (wr.ownsRow w.heap.size 5 1 u t.length (byteCells t)) ∧ Hid (Below w.heap.size w wr))
  case atStart => exact ⟨0, [], _, Nat.zero_le _, rfl, rfl, by omega, Lib.hid (by simp [prk]), Lib.hid (World.ownsRow_nil _ _ _ _), Lib.hid (Below.refl _ _)⟩
  case round =>
    obtain ⟨k, t, v, hk, rfl, rfl, hm, HTK, HO, HBR⟩ := hrel
    by_cases hlt : k < xs.length
    · obtain ⟨bk, off, hAe, hbk, hat⟩ := HA.out (by omega)
      subst hAe
      obtain ⟨e0, e1⟩ := hat k hlt
      have d0 := (HBR.out.cell (p := ⟨bk, _, none⟩) hbk).trans e0
      have d1 := (HBR.out.cell (p := ⟨bk, _, none⟩) hbk).trans e1
      have h0k : (0 : Int) ≤ (k : Int) := by omega
      have hki : (k : Int) < (xs.length : Int) := by omega
      have HPT := Lib.hid (prk_take hlt)
      rw [← HTK.out] at HPT
      have htl : t.length ≤ 1320 := by
        have h1 := prk_len (xs.take k)
        rw [List.length_take] at h1
        rw [HTK.out]
        omega
      have hkk := HKO.out _ (List.getElem_mem hlt)
      obtain ⟨z, hz⟩ : ∃ z : Kx, z = xs[k]'hlt := ⟨_, rfl⟩
      rw [← hz] at d0 d1 HPT hkk
      obtain ⟨kk, x⟩ := z
      simp only at d0 d1 HPT hkk
      have HDA : Hid (∀ W : World, Tab W → Calls Tryd.prog 36 #[.int .i64 kk] W fun e w' => e = .returned (.string ⟨(P.decimal kk).toArray⟩) ∧ Below W.heap.size W w') := Lib.hid (fun W h => decimal_any kk W hkk.1 hkk.2 h)
      have HDB : Hid (∀ W : World, Tab W → Calls Tryd.prog 37 #[fV x.toNat] W fun e w' => e = .returned (.string ⟨(sc x).toArray⟩) ∧ Below W.heap.size W w') := Lib.hid (fun W h => told_any x W h)
      have hl1 := P.decimal_length kk
      have hl2 := sc_len x
      have hd1 : (⟨(P.decimal kk).toArray⟩ : ByteArray).data.toList = P.decimal kk := list_data _
      have hd2 : (⟨(sc x).toArray⟩ : ByteArray).data.toList = sc x := list_data _
      generalize (⟨(P.decimal kk).toArray⟩ : ByteArray) = s1 at *
      generalize (⟨(sc x).toArray⟩ : ByteArray) = s2 at *
      rw [← hd1] at hl1
      rw [← hd2] at hl2
      obtain ⟨z1, r1, f1⟩ := cat2 (a := s1) (b := ⟨#[32]⟩) (by have : (⟨#[32]⟩ : ByteArray).data.toList.length = 1 := rfl; omega)
      have l1 := congrArg List.length f1
      rw [List.length_append, show (⟨#[32]⟩ : ByteArray).data.toList.length = 1 from rfl] at l1
      obtain ⟨z2, r2, f2⟩ := cat2 (a := z1) (b := s2) (by omega)
      have l2 := congrArg List.length f2
      rw [List.length_append] at l2
      obtain ⟨z3, r3, f3⟩ := cat2 (a := z2) (b := ⟨#[10]⟩) (by have : (⟨#[10]⟩ : ByteArray).data.toList.length = 1 := rfl; omega)
      have l3 := congrArg List.length f3
      rw [List.length_append, show (⟨#[10]⟩ : ByteArray).data.toList.length = 1 from rfl] at l3
      have hz3 : z3.data.toList.length ≤ 22 := by omega
      have HZ3 := Lib.hid (show z3.data.toList = P.decimal kk ++ [32] ++ sc x ++ [10] by rw [f3, f2, f1, hd1, hd2])
      clear f1 f2 f3 l1 l2 l3 hl1 hl2 hd1 hd2 hz hat e0 e1 hkk
      obtain ⟨w1, hw1⟩ : ∃ W : World, W = wr.alloc (.cells #[.int .i64 kk, fV x.toNat] 37) := ⟨_, rfl⟩
      have hb1 : Below wr.heap.size wr w1 := by rw [hw1]; exact alloc1 _ _
      have hx1 : w1.heap[wr.heap.size]? = some (.cells #[.int .i64 kk, fV x.toNat] 37 (0, 0)) := by rw [hw1]; exact heap_alloc_new wr _
      have HNE : Hid (∀ g, v.ownBlock = some g → g = wr.heap.size → False) := Lib.hid (fun g e e' => by have := N.own_lt HO.out g e; omega)
      go_upto_region 5 with fail
      rw [← hw1]
      replace HO := Lib.hid (own_below HO.out hb1)
      have HBZ := Lib.hid (HBR.out.trans (hb1.mono HBR.out.size))
      have HT1 := Lib.hid (Tab.later HT.out HBZ.out)
      obtain ⟨eb, heb⟩ : ∃ q, q = wr.heap.size := ⟨_, rfl⟩
      rw [← heb] at hx1 HNE
      simp only [← heb]
      have c0 := L.blk_cell hx1 0
      have c1 := L.blk_cell hx1 1
      simp only [List.getElem?_toArray, List.getElem?_cons_zero, List.getElem?_cons_succ] at c0 c1
      have HEB := Lib.hid (L.blk_lt hx1)
      clear hw1 d0 d1 hb1 hx1 heb HBR
      refine wp_region_held_drew (S := (fun W : World => W.cell? ⟨eb, 0, none⟩ = some (.int .i64 kk) ∧ W.cell? ⟨eb, 1, none⟩ = some (fV x.toNat) ∧ Tab W)) (by kernel_rfl) (⟨c0, c1, HT1.out⟩) (fun hK0 => ?_)
      refine wpAnyH_take (i := 0) (oi := { dst := some 12, op := Go.Op.move (Go.Operand.tmp 3), type := 40, pos := "rank.go:65", after := #[], guard := none }) (v := ?_) rfl (by kernel_rfl) (by kernel_rfl) (by kernel_rfl) (fun _ _ _ h => h) (Or.inl ⟨by rfl, ?_⟩) hK0 ?_
      rotate_left
      · (intro wz hSz; (try dsimp only at hSz); go_simp; try with_reducible rfl)
      simp only [Act.put, List.setIfInBounds_toArray, List.set_cons_zero, List.set_cons_succ]
      refine wpAnyH_take (i := 1) (oi := { dst := some 13, op := Go.Op.fieldAddr 37 (Go.Operand.tmp 5) 0, type := 0, pos := "rank.go:65", after := #[], guard := none }) (v := ?_) rfl (by kernel_rfl) (by kernel_rfl) (by kernel_rfl) (fun _ _ _ h => h) (Or.inl ⟨by rfl, ?_⟩) hK0 ?_
      rotate_left
      · (intro wz hSz; (try dsimp only at hSz); go_simp; try with_reducible rfl)
      simp only [Act.put, List.setIfInBounds_toArray, List.set_cons_zero, List.set_cons_succ]
      refine wpAnyH_take (i := 2) (oi := { dst := some 14, op := Go.Op.load 3 (Go.Operand.tmp 13), type := 3, pos := "rank.go:65", after := #[{ on := 1, ground := Go.Ground.data }], guard := none }) (v := ?_) rfl (by kernel_rfl) (by kernel_rfl) (by kernel_rfl) (fun _ _ _ h => h) (Or.inl ⟨by rfl, ?_⟩) hK0 ?_
      rotate_left
      · (intro wz hSz; obtain ⟨hcz, hcz2, -⟩ := hSz; go_simp; try with_reducible rfl)
      simp only [Act.put, List.setIfInBounds_toArray, List.set_cons_zero, List.set_cons_succ]
      refine wpAnyH_take (i := 5) (oi := { dst := some 17, op := Go.Op.fieldAddr 37 (Go.Operand.tmp 5) 1, type := 0, pos := "rank.go:65", after := #[], guard := none }) (v := ?_) rfl (by kernel_rfl) (by kernel_rfl) (by kernel_rfl) (fun _ _ _ h => h) (Or.inl ⟨by rfl, ?_⟩) hK0 ?_
      rotate_left
      · (intro wz hSz; (try dsimp only at hSz); go_simp; try with_reducible rfl)
      simp only [Act.put, List.setIfInBounds_toArray, List.set_cons_zero, List.set_cons_succ]
      refine wpAnyH_take (i := 6) (oi := { dst := some 18, op := Go.Op.load 27 (Go.Operand.tmp 17), type := 27, pos := "rank.go:65", after := #[{ on := 5, ground := Go.Ground.data }], guard := none }) (v := ?_) rfl (by kernel_rfl) (by kernel_rfl) (by kernel_rfl) (fun _ _ _ h => h) (Or.inl ⟨by rfl, ?_⟩) hK0 ?_
      rotate_left
      · (intro wz hSz; obtain ⟨hcz, hcz2, -⟩ := hSz; go_simp; try with_reducible rfl)
      simp only [Act.put, List.setIfInBounds_toArray, List.set_cons_zero, List.set_cons_succ]
      refine wpAnyH_ready (rs := [3]) (by kernel_rfl) (by simp) ?_
      refine AllReadyH.cons (o := { dst := some 15, op := Go.Op.call { callee := Go.Callee.value (Go.Operand.func 36), args := #[Go.Operand.tmp 14], argTypes := #[3] }, type := 9, pos := "rank.go:65", after := #[{ on := 2, ground := Go.Ground.data }], guard := none }) rfl (fun K hK => ?_) AllReadyH.nil
      go_simp
      with_reducible refine (HDA.out _ (hK0).2.2).mono ?_
      rintro r wq1 ⟨rfl, hbq'⟩
      go_wp2_with fail
      have hbq : Below w1.heap.size w1 wq1 := (V.drawn_below w1 1).trans hbq'
      have heb : eb < w1.heap.size := HEB.out
      have hS : (fun W : World => W.cell? ⟨eb, 0, none⟩ = some (.int .i64 kk) ∧ W.cell? ⟨eb, 1, none⟩ = some (fV x.toNat) ∧ Tab W) wq1 := by obtain ⟨q0, q1, q2⟩ := hK0; exact ⟨(hbq'.cell (p := ⟨eb, _, none⟩) heb).trans q0, (hbq'.cell (p := ⟨eb, _, none⟩) heb).trans q1, Tab.later q2 hbq'⟩
      replace HO := Lib.hid (own_below HO.out hbq)
      replace HBZ := Lib.hid (HBZ.out.trans (hbq.mono HBZ.out.size))
      replace HEB : Hid (eb < wq1.heap.size) := Lib.hid (Nat.lt_of_lt_of_le heb hbq.size)
      clear hbq hbq' heb
      refine hK.out _ _ hS (fun hK1 => ?_)
      clear hK K hS hK0
      refine wpAnyH_take (i := 4) (oi := { dst := some 16, op := Go.Op.binOp Go.BinOp.add 9 (Go.Operand.tmp 15) (Go.Operand.const (Go.Value.string { data := #[32] })) 9, type := 9, pos := "rank.go:65", after := #[{ on := 3, ground := Go.Ground.data }], guard := none }) (v := ?_) rfl (by kernel_rfl) (by kernel_rfl) (by kernel_rfl) (fun _ _ _ h => h) (Or.inl ⟨by rfl, ?_⟩) hK1 ?_
      rotate_left
      · (intro wz hSz; (try dsimp only at hSz); go_simp; try with_reducible rfl)
      simp only [Act.put, List.setIfInBounds_toArray, List.set_cons_zero, List.set_cons_succ]
      refine wpAnyH_ready (rs := [7]) (by kernel_rfl) (by simp) ?_
      refine AllReadyH.cons (o := { dst := some 19, op := Go.Op.call { callee := Go.Callee.value (Go.Operand.func 37), args := #[Go.Operand.tmp 18], argTypes := #[27] }, type := 9, pos := "rank.go:65", after := #[{ on := 6, ground := Go.Ground.data }, { on := 3, ground := Go.Ground.chain }], guard := none }) rfl (fun K hK => ?_) AllReadyH.nil
      go_simp
      with_reducible refine (HDB.out _ (hK1).2.2).mono ?_
      rintro r wq2 ⟨rfl, hbq'⟩
      go_wp2_with fail
      have hbq : Below wq1.heap.size wq1 wq2 := hbq'
      have heb : eb < wq1.heap.size := HEB.out
      have hS : (fun W : World => W.cell? ⟨eb, 0, none⟩ = some (.int .i64 kk) ∧ W.cell? ⟨eb, 1, none⟩ = some (fV x.toNat) ∧ Tab W) wq2 := by obtain ⟨q0, q1, q2⟩ := hK1; exact ⟨(hbq'.cell (p := ⟨eb, _, none⟩) heb).trans q0, (hbq'.cell (p := ⟨eb, _, none⟩) heb).trans q1, Tab.later q2 hbq'⟩
      replace HO := Lib.hid (own_below HO.out hbq)
      replace HBZ := Lib.hid (HBZ.out.trans (hbq.mono HBZ.out.size))
      replace HEB : Hid (eb < wq2.heap.size) := Lib.hid (Nat.lt_of_lt_of_le heb hbq.size)
      clear hbq hbq' heb
      refine hK.out _ _ hS (fun hK2 => ?_)
      clear hK K hS hK1
      refine wpAnyH_take (i := 8) (oi := { dst := some 20, op := Go.Op.binOp Go.BinOp.add 9 (Go.Operand.tmp 16) (Go.Operand.tmp 19) 9, type := 9, pos := "rank.go:65", after := #[{ on := 4, ground := Go.Ground.data }, { on := 7, ground := Go.Ground.data }], guard := none }) (v := ?_) rfl (by kernel_rfl) (by kernel_rfl) (by kernel_rfl) (fun _ _ _ h => h) (Or.inl ⟨by rfl, ?_⟩) hK2 ?_
      rotate_left
      · (intro wz hSz; (try dsimp only at hSz); go_simp; try with_reducible rfl)
      simp only [Act.put, List.setIfInBounds_toArray, List.set_cons_zero, List.set_cons_succ]
      refine wpAnyH_take (i := 9) (oi := { dst := some 21, op := Go.Op.binOp Go.BinOp.add 9 (Go.Operand.tmp 20) (Go.Operand.const (Go.Value.string { data := #[10] })) 9, type := 9, pos := "rank.go:65", after := #[{ on := 8, ground := Go.Ground.data }], guard := none }) (v := ?_) rfl (by kernel_rfl) (by kernel_rfl) (by kernel_rfl) (fun _ _ _ h => h) (Or.inl ⟨by rfl, ?_⟩) hK2 ?_
      rotate_left
      · (intro wz hSz; (try dsimp only at hSz); go_simp; try with_reducible rfl)
      simp only [Act.put, List.setIfInBounds_toArray, List.set_cons_zero, List.set_cons_succ]
      refine wpAnyH_ready (rs := [10]) (by kernel_rfl) (by simp) ?_
      refine AllReadyH.cons (o := { dst := some 22, op := Go.Op.call { callee := Go.Callee.builtin Go.Builtin.append, args := #[Go.Operand.tmp 12, Go.Operand.tmp 21], argTypes := #[40, 9] }, type := 40, pos := "rank.go:65", after := #[{ on := 0, ground := Go.Ground.data }, { on := 9, ground := Go.Ground.data }, { on := 7, ground := Go.Ground.chain }], guard := none }) rfl (fun K hK => ?_) AllReadyH.nil
      obtain ⟨v', wq3, hap, hown3, hg3, -⟩ := Lib.run_append_own_string (P := Tryd.prog) wq2 w.heap.size 40 9 40 5 i0 Tryd.underlying40 Tryd.underlying9 hi0 hz0 hz1 hz2 v t.length (byteCells t) HO.out z3 (by rw [Lib.size_eq]; unfold maxLen; omega) (by rw [Lib.size_eq]; omega) HBZ.out.size
      go_simp
      have hbg : Below w.heap.size w wq3 := HBZ.out.grown hg3 HBZ.out.size (own_base HO.out)
      have hne : some eb ≠ v.ownBlock := fun e => HNE.out eb e.symm rfl
      have hS : (fun W : World => W.cell? ⟨eb, 0, none⟩ = some (.int .i64 kk) ∧ W.cell? ⟨eb, 1, none⟩ = some (fV x.toNat) ∧ Tab W) wq3 := by obtain ⟨q0, q1, -⟩ := hK2; exact ⟨(World.cell?_of_block (a := ⟨eb, _, none⟩) (hg3.block eb HEB.out hne)).trans q0, (World.cell?_of_block (a := ⟨eb, _, none⟩) (hg3.block eb HEB.out hne)).trans q1, Tab.later HT.out hbg⟩
      have HO3 := Lib.hid hown3
      have HB3 := Lib.hid hbg
      clear hown3 hg3 hbg hne hap
      refine hK.out _ _ hS (fun hK3 => ?_)
      clear hK K hS hK2
      refine wpAnyH_take (i := 11) (oi := { dst := some 3, op := Go.Op.assign (Go.Operand.tmp 22), type := 40, pos := "rank.go:65", after := #[{ on := 10, ground := Go.Ground.data }, { on := 10, ground := Go.Ground.chain }, { on := 0, ground := Go.Ground.phase }, { on := 1, ground := Go.Ground.phase }, { on := 2, ground := Go.Ground.phase }, { on := 3, ground := Go.Ground.phase }, { on := 4, ground := Go.Ground.phase }, { on := 5, ground := Go.Ground.phase }, { on := 6, ground := Go.Ground.phase }, { on := 7, ground := Go.Ground.phase }, { on := 8, ground := Go.Ground.phase }, { on := 9, ground := Go.Ground.phase }, { on := 10, ground := Go.Ground.phase }], guard := none }) (v := ?_) rfl (by kernel_rfl) (by kernel_rfl) (by kernel_rfl) (fun _ _ _ h => h) (Or.inl ⟨by rfl, ?_⟩) hK3 ?_
      rotate_left
      · (intro wz hSz; (try dsimp only at hSz); go_simp; try with_reducible rfl)
      simp only [Act.put, List.setIfInBounds_toArray, List.set_cons_zero, List.set_cons_succ]
      refine wpAnyH_done (by kernel_rfl) ?_ _
      go_wp2_with fail
      go_roundg (xs.length - (k + 1))
      case rel => exact ⟨k + 1, t ++ z3.data.toList, _, by omega, by go_num, rfl, Nat.le_refl _, Lib.hid (by rw [HPT.out, HZ3.out]), Lib.hid (by
        rw [List.length_append, byteCells_append]
        have h := HO3.out
        rw [Lib.size_eq] at h
        rw [show byteCells z3.data.toList = Lib.strCells z3 from (byteCells_str z3.data.toList).symm]
        exact h), HB3⟩
      case measure => omega
    · have hkl : k = xs.length := by omega
      subst hkl
      obtain ⟨VA, vc, rfl, -, -⟩ := own_form HO.out
      rw [List.take_length] at HTK
      go_wp2_with fail
      go_ret
      have ht := HTK.out
      have ho := HO.out
      subst ht
      exact ⟨VA, vc, rfl, bytes_own ho, HBR.out⟩
end Go.Proofs.YtfndiggpnkjacaaDoor.Rk

namespace Go.Proofs.YtfndiggpnkjacaaDoor.Rk
set_option linter.unusedVariables false
set_option linter.unusedSimpArgs false
open Go.RowKit Go.Sort Go.Shelf
open T
open I (alloc1 own_at own_below)

open V (drawn_below)
open N (Ln ListsIn)
open Fp (fV isN isnan_any mille_any rmille_any ml ml_le same same_any ky)

set_option maxRecDepth 100000 in
set_option maxHeartbeats 4000000 in
/-- The reference's text of likenesses. -/
theorem rprint_any (A : Option Addr) (xs : List Kx) (c : Nat) (w : World) (hA : LksIn w A xs) (hl : xs.length ≤ 60) :
    Calls Tryd.prog 22 #[.slice A xs.length c] w (PkEnd w (prk xs)) := by
  have HA := Lib.hid hA
  clear hA
  go_enter Tryd.func22, Tryd.ntmps22
  go_wp2_with fail
  go_loopg [3, 4, 5] xs.length (fun n v i s wr => ∃ (k : Nat) (t : ByteArray), k ≤ xs.length ∧ i = .int .i64 (k : Int) ∧ v = .string t ∧ xs.length - k ≤ n ∧ Hid (t.data.toList = prk (xs.take k)) ∧ Hid (Below w.heap.size w wr))
  case atStart => exact ⟨0, ⟨#[]⟩, Nat.zero_le _, rfl, rfl, by omega, Lib.hid (by simp [prk]), Lib.hid (Below.refl _ _)⟩
  case round =>
    obtain ⟨k, t, hk, rfl, rfl, hm, HTK, HBR⟩ := hrel
    have htl : t.data.toList.length ≤ 1320 := by
      have h1 := prk_len (xs.take k)
      rw [List.length_take] at h1
      rw [HTK.out]
      omega
    by_cases hlt : k < xs.length
    · obtain ⟨bk, off, hAe, hbk, hat⟩ := HA.out (by omega)
      subst hAe
      obtain ⟨e0, e1⟩ := hat k hlt
      have d0 := (HBR.out.cell (p := ⟨bk, _, none⟩) hbk).trans e0
      have d1 := (HBR.out.cell (p := ⟨bk, _, none⟩) hbk).trans e1
      have HBK := Lib.hid (Nat.lt_of_lt_of_le hbk HBR.out.size)
      have h0k : (0 : Int) ≤ (k : Int) := by omega
      have hki : (k : Int) < (xs.length : Int) := by omega
      have HPT := Lib.hid (prk_take hlt)
      rw [← HTK.out] at HPT
      obtain ⟨z, hz⟩ : ∃ z : Kx, z = xs[k]'hlt := ⟨_, rfl⟩
      rw [← hz] at d0 d1 HPT
      obtain ⟨kk, x⟩ := z
      simp only at d0 d1 HPT
      have hx := u_lt x
      have HDA : Hid (∀ W : World, Calls Tryd.prog 38 #[.int .i64 kk] W fun e w' => e = .returned (.string ⟨(P.decimal kk).toArray⟩) ∧ Below W.heap.size W w') := Lib.hid (fun W => refDecimal_any kk W)
      have hl1 := P.decimal_length kk
      have hl2 := sc_len x
      have hd1 : (⟨(P.decimal kk).toArray⟩ : ByteArray).data.toList = P.decimal kk := list_data _
      have hd2 : (⟨(sc x).toArray⟩ : ByteArray).data.toList = sc x := list_data _
      obtain ⟨s2, hs2⟩ : ∃ s : ByteArray, s = ⟨(sc x).toArray⟩ := ⟨_, rfl⟩
      rw [← hs2] at hd2
      generalize (⟨(P.decimal kk).toArray⟩ : ByteArray) = s1 at *
      rw [← hd1] at hl1
      rw [← hd2] at hl2
      obtain ⟨z1, r1, f1⟩ := cat2 (a := t) (b := s1) (by omega)
      have l1 := congrArg List.length f1
      rw [List.length_append] at l1
      obtain ⟨z2, r2, f2⟩ := cat2 (a := z1) (b := ⟨#[32]⟩) (by have : (⟨#[32]⟩ : ByteArray).data.toList.length = 1 := rfl; omega)
      have l2 := congrArg List.length f2
      rw [List.length_append, show (⟨#[32]⟩ : ByteArray).data.toList.length = 1 from rfl] at l2
      obtain ⟨z3, r3, f3⟩ := cat2 (a := z2) (b := s2) (by omega)
      have l3 := congrArg List.length f3
      rw [List.length_append] at l3
      obtain ⟨z4, r4, f4⟩ := cat2 (a := z3) (b := ⟨#[10]⟩) (by have : (⟨#[10]⟩ : ByteArray).data.toList.length = 1 := rfl; omega)
      have HZ4 := Lib.hid (show z4.data.toList = prk (xs.take (k + 1)) by rw [HPT.out, f4, f3, f2, f1, hd1, hd2]; simp)
      clear f1 f2 f3 f4 l1 l2 l3 hl1 hl2 hd1 hd2 hz hat e0 e1 hbk HTK HPT htl
      go_upto_region 6 with fail
      cases nx : isN x.toNat
      · have hsc : s2 = ⟨(P.decimal (ml x.toNat)).toArray⟩ := by rw [hs2]; simp [sc, nx]
        have HML := Lib.hid (fun W => rmille_any x.toNat hx W)
        have HDB : Hid (∀ W : World, Calls Tryd.prog 38 #[.int .i64 (ml x.toNat)] W fun e w' => e = .returned (.string s2) ∧ Below W.heap.size W w') := Lib.hid (fun W => by rw [hsc]; exact refDecimal_any _ W)
        clear hs2 hsc
        generalize ml x.toNat = m at *
        go_quiet (fail)
        obtain ⟨wq, hwq⟩ : ∃ W : World, W = wr.drewN nq := ⟨_, rfl⟩
        rw [← hwq]
        have hbq : Below wr.heap.size wr wq := by rw [hwq]; exact drawn_below _ nq
        replace d0 := (hbq.cell (p := ⟨bk, _, none⟩) HBK.out).trans d0
        replace d1 := (hbq.cell (p := ⟨bk, _, none⟩) HBK.out).trans d1
        replace HBR := Lib.hid (HBR.out.trans (hbq.mono HBR.out.size))
        replace HBK : Hid (bk < wq.heap.size) := Lib.hid (Nat.lt_of_lt_of_le HBK.out hbq.size)
        clear hwq hbq
        go_upto_region 8 with (first | (go_at_call 39; refine (HML.out _).mono ?_; rintro e w' ⟨rfl, rfl⟩) | (go_at_call 38; refine (HDB.out _).mono ?_; rintro e w2 ⟨rfl, hb2⟩))
        replace d0 := (hb2.cell (p := ⟨bk, _, none⟩) HBK.out).trans d0
        replace HBR := Lib.hid (HBR.out.trans (hb2.mono HBR.out.size))
        clear hb2 d1
        go_wp2_with ((go_at_call 38; refine (HDA.out _).mono ?_; rintro e w3 ⟨rfl, hb3⟩))
        go_roundg (xs.length - (k + 1))
        case rel => exact ⟨k + 1, z4, by omega, by go_num, rfl, Nat.le_refl _, HZ4, Lib.hid (HBR.out.trans (hb3.mono HBR.out.size))⟩
        case measure => omega
      · have hsc : s2 = ⟨#[45]⟩ := by rw [hs2]; simp [sc, nx]
        subst hsc
        clear hs2
        go_quiet (fail)
        obtain ⟨wq, hwq⟩ : ∃ W : World, W = wr.drewN nq := ⟨_, rfl⟩
        rw [← hwq]
        have hbq : Below wr.heap.size wr wq := by rw [hwq]; exact drawn_below _ nq
        replace d0 := (hbq.cell (p := ⟨bk, _, none⟩) HBK.out).trans d0
        replace HBR := Lib.hid (HBR.out.trans (hbq.mono HBR.out.size))
        clear hwq hbq d1
        go_wp2_with ((go_at_call 38; refine (HDA.out _).mono ?_; rintro e w3 ⟨rfl, hb3⟩))
        go_roundg (xs.length - (k + 1))
        case rel => exact ⟨k + 1, z4, by omega, by go_num, rfl, Nat.le_refl _, HZ4, Lib.hid (HBR.out.trans (hb3.mono HBR.out.size))⟩
        case measure => omega
    · have hkl : k = xs.length := by omega
      subst hkl
      rw [List.take_length] at HTK
      have HSZ := Lib.hid (show t.size = (prk xs).length by rw [Lib.size_eq, HTK.out])
      obtain ⟨cap1, wz, hcv, hbz, hltz, hcz, hinz⟩ := conv_str t wr
      have HBZ := Lib.hid (HBR.out.trans (hbz.mono HBR.out.size))
      have HIN := Lib.hid hinz
      have HLT := Lib.hid hltz
      clear hbz hinz hltz hcz
      go_wp2_with fail
      go_ret
      exact ⟨_, cap1, by rw [← HSZ.out]; rfl, fun _ => ⟨_, 0, rfl, HLT.out, by rw [← HTK.out]; exact HIN.out⟩, HBZ.out⟩
set_option maxRecDepth 100000 in
set_option maxHeartbeats 4000000 in
/-- Likenesses that are the same but for what is none. -/
theorem rsame_any (A B : Option Addr) (xs ys : List Kx) (n c c' : Nat) (w : World) (hA : LksIn w A xs) (hB : LksIn w B ys) (he : xs.map phi = ys.map phi) (hn : xs.length = n) (hl : n ≤ 1000) :
    Calls Tryd.prog 19 #[.slice A n c, .slice B n c'] w fun e w' => e = .returned (.bool true) ∧ Below w.heap.size w w' := by
  have HA := Lib.hid hA
  have HB := Lib.hid hB
  have hnl := congrArg List.length he
  rw [List.length_map, List.length_map] at hnl
  have HXN := Lib.hid hn
  have HYN := Lib.hid (hnl.symm.trans hn)
  have HE : Hid (∀ k (h : k < xs.length) (h' : k < ys.length), xs[k].1 = ys[k].1 ∧ ky xs[k].2.toNat = ky ys[k].2.toNat) := Lib.hid (fun k h h' => by
    have := congrArg (fun l => l[k]?) he
    simp only [List.getElem?_map, List.getElem?_eq_getElem h, List.getElem?_eq_getElem h', Option.map_some, Option.some.injEq, phi, Prod.mk.injEq] at this
    exact ⟨this.1, kz_ky.1 this.2⟩)
  clear hA hB he hnl hn
  go_enter Tryd.func19, Tryd.ntmps19
  go_wp2_with fail
  go_loopg [5] n (fun m i wr => ∃ k : Nat, k ≤ n ∧ i = .int .i64 (k : Int) ∧ n - k ≤ m ∧ Hid (Below w.heap.size w wr))
  case atStart => exact ⟨0, Nat.zero_le _, rfl, by omega, Lib.hid (Below.refl _ _)⟩
  case round =>
    obtain ⟨k, hk, rfl, hmm, HBR⟩ := hrel
    by_cases hkl : k < n
    · have hkx : k < xs.length := by have := HXN.out; omega
      have hky : k < ys.length := by have := HYN.out; omega
      obtain ⟨b1, o1, hAe, hb1, hI1⟩ := HA.out.below HBR.out (by omega)
      subst hAe
      obtain ⟨b2, o2, hBe, hb2, hI2⟩ := HB.out.below HBR.out (by omega)
      subst hBe
      obtain ⟨c0, c1⟩ := hI1 k hkx
      obtain ⟨d0, d1⟩ := hI2 k hky
      have h0k : (0 : Int) ≤ (k : Int) := by omega
      have hki : (k : Int) < (n : Int) := by omega
      obtain ⟨q1, q2⟩ := HE.out k hkx hky
      rw [← q1] at d0
      obtain ⟨p, hp⟩ : ∃ p, p = xs[k] := ⟨_, rfl⟩
      obtain ⟨r, hr⟩ : ∃ r, r = ys[k] := ⟨_, rfl⟩
      rw [← hp] at c0 c1 d0 q2
      rw [← hr] at d1 q2
      obtain ⟨p0, p1⟩ := p
      obtain ⟨r0, r1⟩ := r
      simp only at c0 c1 d0 d1 q2
      have HS := Lib.hid (show ∀ W : World, Calls Tryd.prog 13 #[fV p1.toNat, fV r1.toNat] W fun e w' => e = .returned (.bool true) ∧ w' = W from fun W => (same_any _ _ (u_lt p1) (u_lt r1) W).mono fun e w' ⟨h1, h2⟩ => ⟨by rw [h1, show same p1.toNat r1.toNat = true from decide_eq_true q2], h2⟩)
      have HR : Hid (∀ q, Below w.heap.size w (wr.drewN q)) := Lib.hid fun q => HBR.out.trans ((drawn_below wr q).mono HBR.out.size)
      clear hp hr hI1 hI2 q1 q2 hkx hky HBR
      go_wp2_with fail
      go_quiet ((go_at_call 13; exact Calls.quiet_of_same (HS.out _)))
      go_wp2_with fail
      go_roundg (n - (k + 1))
      case rel => exact ⟨k + 1, by omega, by go_num, by omega, Lib.hid (HR.out _)⟩
      case measure => omega
    · obtain rfl : k = n := by omega
      go_wp2_with fail
      go_ret
      exact ⟨rfl, HBR.out⟩
/-- The first forty lines. -/
theorem few_any (A : Option Addr) (n c : Nat) (w : World) (ha : n ≤ maxLen) (hc : n ≤ c) :
    Calls Tryd.prog 9 #[.slice A n c] w fun e w' => e = .returned (.slice A (min n 40) c) ∧ w' = w := by
  unfold maxLen at ha
  obtain ⟨m, hm⟩ : ∃ m, m = min n 40 := ⟨_, rfl⟩
  have hm' : min (n : Int) 40 = (m : Int) := by omega
  have hmn : m ≤ n := by omega
  rw [← hm]
  clear hm
  go_enter Tryd.func9, Tryd.ntmps9
  go_wp2_with fail
  go_ret
  exact ⟨rfl, rfl⟩
theorem lines_take {w : World} {A : Option Addr} {l : List Ln} (h : LinesIn w A l) (k : Nat) : LinesIn w A (l.take k) := fun hp => by
  rw [List.length_take] at hp
  obtain ⟨bk, off, e, hlt, hl⟩ := h (by omega)
  refine ⟨bk, off, e, hlt, fun j hj => ?_⟩
  rw [List.length_take] at hj
  simp only [List.getElem_take]
  exact hl j (by omega)
/-- The first eight texts, and of each forty lines. -/
def tx (ls : List (List Ln)) : List (List Ln) := (ls.take 8).map (List.take 40)
theorem tx_len (ls : List (List Ln)) : (tx ls).length = min ls.length 8 := by simp [tx, Nat.min_comm]
/-- Values of rows of lines. -/
def Tv (w : World) (ls : List (List Ln)) (vs : List Value) : Prop := ∀ j (h : j < vs.length), ∃ (h' : j < ls.length) (A : Option Addr) (c : Nat), vs[j] = .slice A (ls[j].take 40).length c ∧ LinesIn w A (ls[j].take 40) ∧ (ls[j].take 40).length ≤ c
theorem infoTx : (Tryd.prog.info? 22).map (fun i => (i.zero, i.size, i.bytes)) = some (some (.slice none 0 0), 1, 24) := by kernel_rfl
set_option maxRecDepth 100000 in
set_option maxHeartbeats 4000000 in
theorem texts_any (A : Option Addr) (ls : List (List Ln)) (c : Nat) (w : World) (hA : ListsIn w A ls) (hln : ∀ l ∈ ls, l.length ≤ maxLen) (hl : ls.length ≤ maxLen) :
    Calls Tryd.prog 16 #[.slice A ls.length c] w fun e w' => ∃ B cap, e = .returned (.slice B (tx ls).length cap) ∧ ListsIn w' B (tx ls) ∧ (tx ls).length ≤ cap ∧ Below w.heap.size w w' := by
  obtain ⟨i0, hi0, hz0, hz1, hz2⟩ := info_parts infoTx
  unfold maxLen at hl
  have HA := Lib.hid hA
  have HLN := Lib.hid hln
  have HTL := Lib.hid (tx_len ls)
  clear hA hln
  go_enter Tryd.func16, Tryd.ntmps16
  go_wp2_with fail
  go_loopg [3, 4] (min ls.length 8) (fun n v i wr => ∃ (k : Nat) (vs : List Value), k ≤ min ls.length 8 ∧ i = .int .i64 (k : Int) ∧ min ls.length 8 - k ≤ n ∧ Hid (vs.length = k) ∧ Hid (wr.ownsRow w.heap.size 22 1 v vs.length vs) ∧ Hid (Tv w ls vs) ∧ Hid (Below w.heap.size w wr))
  case atStart => exact ⟨0, [], Nat.zero_le _, rfl, by omega, Lib.hid rfl, Lib.hid (World.ownsRow_nil _ _ _ _), Lib.hid (fun j h => absurd h (by simp)), Lib.hid (Below.refl _ _)⟩
  case round =>
    obtain ⟨k, vs, hk, rfl, hm, HVL, HO, HTV, HBR⟩ := hrel
    have h0k : (0 : Int) ≤ (k : Int) := by omega
    by_cases hlt : k < min ls.length 8
    · have hkl : k < ls.length := by omega
      have hk8 : (k : Int) < 8 := by omega
      have hki : (k : Int) < (ls.length : Int) := by omega
      obtain ⟨bk, off, hAe, hbk, hat⟩ := HA.out (by omega)
      subst hAe
      obtain ⟨LA, lc, e0, hI, hlc⟩ := hat k hkl
      have d0 := (HBR.out.cell (p := ⟨bk, off + k, none⟩) hbk).trans e0
      have hml := HLN.out _ (List.getElem_mem hkl)
      have HTN : Hid (Tv w ls (vs ++ [Value.slice LA (ls[k].take 40).length lc])) := Lib.hid (fun j h => by
        rw [List.length_append, List.length_singleton] at h
        by_cases e : j < vs.length
        · rw [List.getElem_append_left e]
          exact HTV.out j e
        · have hjk : j = k := by have := HVL.out; omega
          subst hjk
          refine ⟨hkl, LA, lc, ?_, lines_take hI 40, by rw [List.length_take]; omega⟩
          rw [List.getElem_append_right (by omega)]
          simp)
      have hmn : (ls[k].take 40).length = min ls[k].length 40 := by rw [List.length_take, Nat.min_comm]
      have HFW := Lib.hid (few_any LA ls[k].length lc wr hml hlc)
      rw [← hmn] at HFW
      have hv8 : vs.length ≤ 8 := by have := HVL.out; omega
      obtain ⟨m, hm'⟩ : ∃ m, m = (ls[k]'hkl).length := ⟨_, rfl⟩
      obtain ⟨m2, hm2⟩ : ∃ m, m = ((ls[k]'hkl).take 40).length := ⟨_, rfl⟩
      rw [← hm'] at d0 HFW
      rw [← hm2] at HFW HTN
      have hs0 := HBR.out.size
      have HOA := Lib.hid (World.ownsRow.alloc HO.out (.cells #[.slice LA m2 lc] 22))
      have HNW := Lib.hid (World.news_of_block (w := wr.alloc (.cells #[.slice LA m2 lc] 22)) (heap_alloc_new wr _))
      clear hm' hm2 hmn hml hat e0 hI hlc HTV
      go_wp2_with (first
        | (go_at_call 9; refine (HFW.out).mono ?_; rintro e w1 ⟨rfl, rfl⟩)
        | (at_builtin; refine wpList_append_own _ rfl (.tmp 15) (.tmp 21) 30 rfl w.heap.size 22 i0 _ 1 24 Tryd.underlying30 hi0 hz0 hz1 hz2 rfl (by decide) _ vs.length vs rfl HOA.out ⟨_, 0, none⟩ 1 1 [.slice LA m2 lc] rfl rfl HNW.out ?c2 ?c3 ?c4 ?c5 ?_))
      case c2 => first | exact rfl | (intro u hu; simp at hu; subst hu; rfl)
      case c3 => unfold maxLen; omega
      case c4 => omega
      case c5 => first | omega | (simp; omega)
      intro v' w4 hown4 hg4 _
      have HB4 : Hid (Below w.heap.size w w4) := Lib.hid ((HBR.out.alloc hs0 _).grown hg4 (by simp; omega) (own_base HO.out))
      have HO4 : Hid (w4.ownsRow w.heap.size 22 1 v' (vs ++ [Value.slice LA m2 lc]).length (vs ++ [Value.slice LA m2 lc])) := Lib.hid (by rw [List.length_append]; exact hown4)
      clear hown4 hg4
      go_wp2_with fail
      go_roundg (min ls.length 8 - (k + 1))
      case rel => exact ⟨k + 1, vs ++ [Value.slice LA m2 lc], by omega, by go_num, Nat.le_refl _, Lib.hid (by rw [List.length_append, HVL.out]; rfl), HO4, HTN, HB4⟩
      case measure => omega
    · have hkm : k = min ls.length 8 := by omega
      obtain ⟨VA, vc, rfl, -, -⟩ := own_form HO.out
      have hcp : vs.length ≤ vc := by
        rcases HO.out.2 with ⟨h1, h2⟩ | ⟨g, cap, cur, h1, h2, h3, h4, h5⟩
        · omega
        · injection h1 with _ _ h1
          omega
      have HCP := Lib.hid hcp
      have HKM := Lib.hid hkm
      have hvt : vs.length = (tx ls).length := by rw [HVL.out, HTL.out, hkm]
      have HVT := Lib.hid hvt
      have HLI : Hid (ListsIn wr VA (tx ls)) := Lib.hid (fun hp => by
        obtain ⟨g, hA', _, hlt', hc'⟩ := own_at HO.out (by omega)
        refine ⟨g, 0, hA', hlt', fun j hj => ?_⟩
        have hjv : j < vs.length := by omega
        obtain ⟨h', LA, lc, e1, e2, e3⟩ := HTV.out j hjv
        have e4 : (tx ls)[j] = ls[j].take 40 := by simp [tx]
        rw [e4]
        refine ⟨LA, lc, ?_, e2.below HBR.out, e3⟩
        have := hc' j vs[j] (List.getElem?_eq_getElem hjv)
        rw [Nat.zero_add, this, e1])
      clear hvt hcp HTV
      by_cases h8 : ls.length < 8
      · have hkk : (k : Int) = (ls.length : Int) := by omega
        have hnl : ¬ (k : Int) < (ls.length : Int) := by omega
        have hnd : decide (k < ls.length) = false := decide_eq_false (by omega)
        have HKK := Lib.hid hkk
        clear hkm hkk hlt
        go_wp2_with fail
        go_ret
        exact ⟨VA, vc, by rw [← HVT.out]; rfl, HLI.out, by rw [← HVT.out]; exact HCP.out, HBR.out⟩
      · have hk8 : k = 8 := by omega
        subst hk8
        have hnl : (8 : Int) ≤ (ls.length : Int) := by omega
        clear hkm hlt
        by_cases h9 : 8 < ls.length
        · have h9' : (8 : Int) < (ls.length : Int) := by omega
          go_wp2_with fail
          go_ret
          exact ⟨VA, vc, by rw [← HVT.out]; rfl, HLI.out, by rw [← HVT.out]; exact HCP.out, HBR.out⟩
        · have h9' : ¬ (8 : Int) < (ls.length : Int) := by omega
          go_wp2_with fail
          go_ret
          exact ⟨VA, vc, by rw [← HVT.out]; rfl, HLI.out, by rw [← HVT.out]; exact HCP.out, HBR.out⟩
end Go.Proofs.YtfndiggpnkjacaaDoor.Rk

namespace Go.Proofs.YtfndiggpnkjacaaDoor.Rk
set_option linter.unusedVariables false
set_option linter.unusedSimpArgs false
open Go.RowKit Go.Sort Go.Shelf
open T
open I (alloc1 own_at own_below)

open V (drawn_below)
open N (Ln ListsIn)
open Fp (fV isN ml fl vl)

theorem lines_of_block {w : World} {g : Nat} {cs : Array Value} {xs : List Ln} (h : w.heap[g]? = some (.cells cs 44 (0, 0))) (hc : cs.toList = lineCells xs) : LinesIn w (some ⟨g, 0, none⟩) xs := fun hp => by
  refine ⟨g, 0, rfl, L.blk_lt h, fun j hj => ?_⟩
  obtain ⟨h0, h1⟩ := lineCells_at xs j hj
  rw [← hc] at h0 h1
  rw [Nat.zero_add]
  exact ⟨(L.blk_cell h _).trans (by rw [← Array.getElem?_toList]; exact h0), (L.blk_cell h _).trans (by rw [← Array.getElem?_toList]; exact h1)⟩
def la : Ln := ([97], false)
def lb : Ln := ([98], false)
def lc : Ln := ([99], false)
def HALF : Nat := 4602678819172646912
/-- The first one is that which is ahead of all others. -/
theorem head_is {ws : List UInt64} {xs : List Kx} (h : Rd ws xs) {i : Nat} (hi : i < ws.length) (hn : isN ws[i].toNat = false) (ha : ∀ j (hj : j < ws.length), j ≠ i → lx ((i : Int), ws[i]) ((j : Int), ws[j]) = true) : nr xs = ((i : Int), true) := by
  have hm : ((i : Int), ws[i]) ∈ xs := h.pe.mem_iff.2 (mem_nd hi)
  cases xs with
  | nil => simp at hm
  | cons x s =>
    obtain ⟨j, hj, rfl⟩ := nd_mem (h.pe.mem_iff.1 List.mem_cons_self)
    by_cases e : j = i
    · subst e
      simp [nr, hn]
    · have h1 := ha j hj e
      have h2 : lx ((j : Int), ws[j]) ((i : Int), ws[i]) = true := by
        rcases List.mem_cons.1 hm with q | q
        · exact absurd (congrArg Prod.fst q) (by simp only; omega)
        · exact (List.pairwise_cons.1 h.so).1 _ q
      have h3 := swoX.trans _ _ _ h1 h2
      rw [swoX.irrefl] at h3
      exact absurd h3 (by decide)
theorem cn_of {a b : List Ln} {n d : Nat} (h : M.ed (N.row [] a) (N.row (N.known [] a) b) = d) (hn : d + 2 * n = a.length + b.length) : cn a b = n := by
  have := cn_ed a b
  omega
theorem lv_cn1 : cn [la] [lc] = 0 := cn_of (d := 2) (by rw [show N.row [] [la] = [0] by decide, show N.row (N.known [] [la]) [lc] = [1] by decide]; simp [M.ed]) rfl
theorem lv_cn2 : cn [lb, lc] [lc] = 1 := cn_of (d := 1) (by rw [show N.row [] [lb, lc] = [0, 1] by decide, show N.row (N.known [] [lb, lc]) [lc] = [1] by decide]; simp [M.ed]) rfl
theorem lv_cn3 : cn [la, lb] [lb, lc] = 1 := cn_of (d := 2) (by rw [show N.row [] [la, lb] = [0, 1] by decide, show N.row (N.known [] [la, lb]) [lb, lc] = [1, 2] by decide]; simp [M.ed]) rfl
theorem lw_a : lw 0 1 1 = 0 := by decide +kernel
theorem lw_b : ¬ isN (lw 1 2 1) = true ∧ 0 < Fp.ky (lw 1 2 1) ∧ lw 1 2 1 < 2 ^ 64 := by decide +kernel
theorem lw_c : lw 1 2 2 = HALF := by decide +kernel
theorem lv_near : nr (ox [[la], [lb, lc]] [lc]) = (1, true) := by
  have h := ox_rd [[la], [lb, lc]] [lc]
  have e : cw [[la], [lb, lc]] [lc] = [0, UInt64.ofNat (lw 1 2 1)] := by
    unfold cw
    simp only [List.map_cons, List.map_nil]
    unfold lks
    rw [lv_cn1, lv_cn2]
    simp only [List.length_cons, List.length_nil, Nat.zero_add, Nat.reduceAdd]
    rw [lw_a]
    rfl
  rw [e] at h
  obtain ⟨h1, h2, h3⟩ := lw_b
  have ht : (UInt64.ofNat (lw 1 2 1)).toNat = lw 1 2 1 := by rw [UInt64.toNat_ofNat']; exact Nat.mod_eq_of_lt h3
  refine head_is h (i := 1) (by simp) (by simp only [List.getElem_cons_succ, List.getElem_cons_zero]; rw [ht]; simpa using h1) (fun j hj hne => ?_)
  simp only [List.length_cons, List.length_nil] at hj
  have hj0 : j = 0 := by omega
  subst hj0
  simp only [List.getElem_cons_succ, List.getElem_cons_zero]
  unfold lx
  refine decide_eq_true (.inl ?_)
  rw [kz_num (by rw [ht]; simpa using h1), kz_num (show isN (0 : UInt64).toNat = false by decide), ht]
  have : Fp.ky (0 : UInt64).toNat = 0 := by decide
  omega
theorem lv_like {x : UInt64} (h : Lw [la, lb] [lb, lc] x.toNat) : x.toNat = HALF := by
  have := (h.num (by simp)).2.1
  rw [this]
  unfold lks
  rw [lv_cn3]
  exact lw_c
theorem old_at {w : World} {i : Nat} {x : Obj} (o : Obj) (h : w.heap[i]? = some x) : (w.alloc o).heap[i]? = some x := by rw [Below.heap_alloc _ _ _ (L.blk_lt h)]; exact h
theorem new_at {w : World} {n : Nat} (o : Obj) (h : w.heap.size = n) : (w.alloc o).heap[n]? = some o := by subst h; exact heap_alloc_new w o
theorem cell_more {w : World} {b off : Nat} {v : Value} (h : w.cell? ⟨b, off, none⟩ = some v) (o : Obj) : (w.alloc o).cell? ⟨b, off, none⟩ = some v := by
  have hl : b < w.heap.size := by
    rcases Nat.lt_or_ge b w.heap.size with q | q
    · exact q
    · simp [World.cell?, Array.getElem?_eq_none q] at h
  exact ((alloc1 w o).cell (p := ⟨b, off, none⟩) hl).trans h
theorem lv_print : prk [(2, UInt64.ofNat HALF)] = [50, 32, 53, 48, 48, 10] := by decide +kernel
theorem three (w : World) (o0 o1 o2 : Obj) : ∃ W : World, W = ((w.alloc o0).alloc o1).alloc o2 ∧ W.heap[w.heap.size]? = some o0 ∧ W.heap[w.heap.size + 1]? = some o1 ∧ W.heap[w.heap.size + 1 + 1]? = some o2 ∧ Below w.heap.size w W := by
  refine ⟨_, rfl, ?_, ?_, ?_, ?_⟩
  · exact old_at _ (old_at _ (new_at _ rfl))
  · exact old_at _ (new_at _ (by simp))
  · exact new_at _ (by simp)
  · exact ((alloc1 _ _).alloc (by simp) _).alloc (by simp; omega) _
theorem four (w : World) (o0 o1 o2 o3 : Obj) : ∃ W : World, W = (((w.alloc o0).alloc o1).alloc o2).alloc o3 ∧ W.heap[w.heap.size]? = some o0 ∧ W.heap[w.heap.size + 1]? = some o1 ∧ W.heap[w.heap.size + 1 + 1]? = some o2 ∧ W.heap[w.heap.size + 1 + 1 + 1]? = some o3 ∧ Below w.heap.size w W := by
  refine ⟨_, rfl, ?_, ?_, ?_, ?_, ?_⟩
  · exact old_at _ (old_at _ (old_at _ (new_at _ rfl)))
  · exact old_at _ (old_at _ (new_at _ (by simp)))
  · exact old_at _ (new_at _ (by simp))
  · exact new_at _ (by simp)
  · exact (((alloc1 _ _).alloc (by simp) _).alloc (by simp; omega) _).alloc (by simp; omega) _
def LvC (fn : FuncId) : Prop := ∀ w : World, Tab w → Calls Tryd.prog fn #[] w fun e w' => e = .returned (.bool true) ∧ Below w.heap.size w w'
theorem LvC.call {fn : FuncId} (h : LvC fn) (w : World) (ht : Tab w) : Calls Tryd.prog fn #[] w fun e w' => e = .returned (.bool true) ∧ Below w.heap.size w w' := h w ht
set_option maxRecDepth 100000 in
set_option maxHeartbeats 8000000 in
theorem live23 : LvC 10 := fun w ht => by
  obtain ⟨W1, hW1, k0, k1, k2, hB1⟩ := three w (.cells #[.string ⟨#[97]⟩, .bool false] 44) (.cells #[.string ⟨#[98]⟩, .bool false] 44) (.cells #[.string ⟨#[99]⟩, .bool false] 44)
  obtain ⟨W2, hW2, j0, j1, j2, j3, hB2⟩ := four W1 (.cells #[.string ⟨#[97]⟩, .bool false] 44) (.cells #[.string ⟨#[98]⟩, .bool false, .string ⟨#[99]⟩, .bool false] 44) (.cells #[.slice (some ⟨W1.heap.size, 0, none⟩) 1 1, .slice (some ⟨W1.heap.size + 1, 0, none⟩) 2 2] 22) (.cells #[.string ⟨#[99]⟩, .bool false] 44)
  have hLL : ListsIn W2 (some ⟨W1.heap.size + 1 + 1, 0, none⟩) [[la], [lb, lc]] := fun _ => by
    refine ⟨_, 0, rfl, L.blk_lt j2, fun j hj => ?_⟩
    have hj2 : j < 2 := hj
    match j, hj2 with
    | 0, _ => exact ⟨_, 1, L.blk_cell j2 0, lines_of_block (xs := [la]) j0 rfl, Nat.le_refl _⟩
    | 1, _ => exact ⟨_, 2, L.blk_cell j2 1, lines_of_block (xs := [lb, lc]) j1 rfl, Nat.le_refl _⟩
  have hLT : LinesIn W2 (some ⟨W1.heap.size + 1 + 1 + 1, 0, none⟩) [lc] := lines_of_block (xs := [lc]) j3 rfl
  have hml : ∀ y ∈ [la, lb, lc], y.1.length ≤ maxLen := by
    intro y hy
    simp only [List.mem_cons, List.not_mem_nil, or_false] at hy
    unfold maxLen
    rcases hy with rfl | rfl | rfl <;> decide
  have HNR : Hid (Calls Tryd.prog 18 #[.slice (some ⟨W1.heap.size + 1 + 1, 0, none⟩) 2 2, .slice (some ⟨W1.heap.size + 1 + 1 + 1, 0, none⟩) 1 1] W2 fun e w' => e = .returned (.tuple #[.int .i64 1, .bool true]) ∧ Below W2.heap.size W2 w') := Lib.hid (by
    have := nearest_any (some ⟨W1.heap.size + 1 + 1, 0, none⟩) (some ⟨W1.heap.size + 1 + 1 + 1, 0, none⟩) [[la], [lb, lc]] [lc] 2 1 W2 hLL hLT (by decide) (by decide) (fun l hl => by
      simp only [List.mem_cons, List.not_mem_nil, or_false] at hl
      rcases hl with rfl | rfl
      · exact lk_is (by decide) (by decide) (fun y hy => hml y (by simp at hy; subst hy; simp)) (fun y hy => hml y (by simp at hy; subst hy; simp))
      · exact lk_is (by decide) (by decide) (fun y hy => hml y (by simp at hy; rcases hy with rfl | rfl <;> simp)) (fun y hy => hml y (by simp at hy; subst hy; simp)))
    rw [lv_near] at this
    exact this)
  have HLK : Hid (LkC 14 [la, lb] [lb, lc]) := Lib.hid (lk_is (by decide) (by decide) (fun y hy => hml y (by simp at hy; rcases hy with rfl | rfl <;> simp)) (fun y hy => hml y (by simp at hy; rcases hy with rfl | rfl <;> simp)))
  have HB1 := Lib.hid hB1
  have HB2 := Lib.hid hB2
  have HT := Lib.hid ht
  have HK0 := Lib.hid k0
  have HK1 := Lib.hid k1
  have HK2 := Lib.hid k2
  have c0 := L.blk_cell k0 0
  have c1 := L.blk_cell k0 1
  have c2 := L.blk_cell k1 0
  have c3 := L.blk_cell k1 1
  have c4 := L.blk_cell k2 0
  have c5 := L.blk_cell k2 1
  simp only [List.getElem?_toArray, List.getElem?_cons_zero, List.getElem?_cons_succ] at c0 c1 c2 c3 c4 c5
  clear hLL hLT hml k0 k1 k2 j0 j1 j2 j3 hB1 hB2 ht
  go_enter Tryd.func10, Tryd.ntmps10
  go_upto_region 2 with fail
  rw [← hW1]
  obtain ⟨g, hg⟩ : ∃ q, q = w.heap.size := ⟨_, rfl⟩
  rw [← hg] at c0 c1 c2 c3 c4 c5 HK0 HK1 HK2
  simp only [← hg]
  clear hW1 hg
  have e2 := fun o => cell_more c2 o
  have e3 := fun o => cell_more c3 o
  have e4 := fun o => cell_more c4 o
  have e5 := fun o => cell_more c5 o
  have f4 := fun o o' o'' => cell_more (cell_more (cell_more c4 o) o') o''
  have f5 := fun o o' o'' => cell_more (cell_more (cell_more c5 o) o') o''
  go_wp2_with fail
  rw [← hW2]
  clear e2 e3 e4 e5 f4 f5
  clear hW2
  with_reducible refine (HNR.out).mono ?_
  rintro e w3 ⟨rfl, hb3⟩
  have hb13 := HB2.out.trans (hb3.mono HB2.out.size)
  replace HK0 := Lib.hid ((hb13.block _ (L.blk_lt HK0.out)).trans HK0.out)
  replace HK1 := Lib.hid ((hb13.block _ (L.blk_lt HK1.out)).trans HK1.out)
  replace HK2 := Lib.hid ((hb13.block _ (L.blk_lt HK2.out)).trans HK2.out)
  replace HB1 := Lib.hid (HB1.out.trans (hb13.mono HB1.out.size))
  clear c0 c1 c2 c3 c4 c5 hb3 hb13 HB2 HNR
  have c0 := L.blk_cell HK0.out 0
  have c1 := L.blk_cell HK0.out 1
  have c2 := L.blk_cell HK1.out 0
  have c3 := L.blk_cell HK1.out 1
  have c4 := L.blk_cell HK2.out 0
  have c5 := L.blk_cell HK2.out 1
  simp only [List.getElem?_toArray, List.getElem?_cons_zero, List.getElem?_cons_succ] at c0 c1 c2 c3 c4 c5
  have h0 : isN 4602678819172646912 = false := by decide
  have v0 : vl 4602678819172646912 = 4602678819172646912 := by decide
  have HTW := Lib.hid (Tab.later HT.out HB1.out)
  clear HT
  obtain ⟨w4, hw4, m0, m1, hb4⟩ : ∃ W : World, W = (w3.alloc (.cells #[.string ⟨#[97]⟩, .bool false, .string ⟨#[98]⟩, .bool false] 44)).alloc (.cells #[.string ⟨#[98]⟩, .bool false, .string ⟨#[99]⟩, .bool false] 44) ∧ W.heap[w3.heap.size]? = some (.cells #[.string ⟨#[97]⟩, .bool false, .string ⟨#[98]⟩, .bool false] 44 (0, 0)) ∧ W.heap[w3.heap.size + 1]? = some (.cells #[.string ⟨#[98]⟩, .bool false, .string ⟨#[99]⟩, .bool false] 44 (0, 0)) ∧ Below w3.heap.size w3 W :=
    ⟨_, rfl, old_at _ (new_at _ rfl), new_at _ (by simp), (alloc1 _ _).alloc (by simp) _⟩
  have HC : Hid (Calls Tryd.prog 14 #[.slice (some ⟨w3.heap.size, 0, none⟩) 2 2, .slice (some ⟨w3.heap.size + 1, 0, none⟩) 2 2] w4 fun e w' => ∃ x : UInt64, e = .returned (fV x.toNat) ∧ Lw [la, lb] [lb, lc] x.toNat ∧ Below w4.heap.size w4 w') := Lib.hid (HLK.out.call w4 (c := 2) (c' := 2) (lines_of_block (xs := [la, lb]) m0 rfl) (lines_of_block (xs := [lb, lc]) m1 rfl) (by decide) (by decide))
  have HB4 := Lib.hid hb4
  replace HTW := Lib.hid (Tab.later HTW.out hb4)
  clear m0 m1 hb4 HK0 HK1 HK2 HLK
  have e2 := fun o => cell_more c2 o
  have e3 := fun o => cell_more c3 o
  have e4 := fun o => cell_more c4 o
  have e5 := fun o => cell_more c5 o
  go_wp2_with fail
  rw [← hw4]
  clear e2 e3 e4 e5
  with_reducible refine (HC.out).mono ?_
  rintro e w5 ⟨x, rfl, hx, hb5⟩
  obtain hxv := lv_like hx
  unfold HALF at hxv
  rw [hxv]
  replace HTW := Lib.hid (Tab.later HTW.out hb5)
  have HB5 := Lib.hid (HB1.out.trans ((HB4.out.trans (hb5.mono HB4.out.size)).mono HB1.out.size))
  clear hx hxv hb5 HB1 HB4 hw4 c0 c1 c2 c3 c4 c5 HC
  have hlk := lks_one w5 ((2 : Int), UInt64.ofNat HALF)
  have HPR : Hid (Calls Tryd.prog 21 #[.slice (some ⟨w5.heap.size, 0, none⟩) 1 1] (w5.alloc (.cells #[.int .i64 2, .float .f64 4602678819172646912] 37)) fun e w' => ∃ B bc, e = .returned (.slice B 6 bc) ∧ BytesIn w' B [50, 32, 53, 48, 48, 10] ∧ Below (w5.alloc (.cells #[.int .i64 2, .float .f64 4602678819172646912] 37)).heap.size (w5.alloc (.cells #[.int .i64 2, .float .f64 4602678819172646912] 37)) w') := Lib.hid (by
    have := print_any (some ⟨w5.heap.size, 0, none⟩) [((2 : Int), UInt64.ofNat HALF)] 1 _ hlk (by decide) (fun y hy => by simp at hy; subst hy; decide) (Tab.alloc HTW.out _)
    rw [lv_print] at this
    exact this)
  clear hlk
  go_wp2_with (first | (go_at_call 21; (with_reducible refine (HPR.out).mono ?_; rintro e w6 ⟨B, bc, rfl, hby, hb6⟩; have hcv := conv_in bc hby; rw [show ([50, 32, 53, 48, 48, 10] : List UInt8).length = 6 from rfl] at hcv; have HB6 := Lib.hid (HB5.out.trans (((alloc1 w5 _).trans (hb6.mono (alloc1 w5 _).size)).mono HB5.out.size)))))
  go_ret
  exact ⟨rfl, HB6.out⟩
end Go.Proofs.YtfndiggpnkjacaaDoor.Rk

namespace Go.Proofs.YtfndiggpnkjacaaDoor.Bulk

theorem bound {H : Type} {l : List (DataW H)} (hk : Rows.uptoSmall H l = true) : Rows.uptoBulkAll l ≤ 1048576 := of_decide_eq_true hk
theorem string_bulk {H : Type} (b : List UInt8) : Rows.uptoBulk (DataW.lit (H := H) (.string b)) = b.length + 1 := by simp [Rows.uptoBulk]
/-- One text: so many bytes at the most. -/
theorem string_size {H : Type} {s : ByteArray} {r : List (DataW H)} (hk : Rows.uptoSmall H ([.lit (.string s.data.toList)] ++ r) = true) : s.size ≤ 1048576 := by
  have h := bound hk
  simp only [List.cons_append, List.nil_append, Rows.uptoBulkAll, string_bulk] at h
  have := Lib.size_eq s
  omega
/-- A text behind one or two other arguments. -/
theorem string_size2 {H : Type} {a : DataW H} {s : ByteArray} {r : List (DataW H)} (hk : Rows.uptoSmall H ([a, .lit (.string s.data.toList)] ++ r) = true) : s.size ≤ 1048576 := by
  have h := bound hk
  simp only [List.cons_append, List.nil_append, Rows.uptoBulkAll, string_bulk] at h
  have := Lib.size_eq s
  omega
theorem string_size3 {H : Type} {a b : DataW H} {s : ByteArray} {r : List (DataW H)} (hk : Rows.uptoSmall H ([a, b, .lit (.string s.data.toList)] ++ r) = true) : s.size ≤ 1048576 := by
  have h := bound hk
  simp only [List.cons_append, List.nil_append, Rows.uptoBulkAll, string_bulk] at h
  have := Lib.size_eq s
  omega
/-- One or two arguments, whatever they are. -/
theorem one {H : Type} {a : DataW H} {r : List (DataW H)} (hk : Rows.uptoSmall H ([a] ++ r) = true) : Rows.uptoBulk a ≤ 1048576 := by
  have h := bound hk
  simp only [List.cons_append, List.nil_append, Rows.uptoBulkAll] at h
  omega
theorem two {H : Type} {a b : DataW H} {r : List (DataW H)} (hk : Rows.uptoSmall H ([a, b] ++ r) = true) : Rows.uptoBulk a ≤ 1048576 ∧ Rows.uptoBulk b ≤ 1048576 := by
  have h := bound hk
  simp only [List.cons_append, List.nil_append, Rows.uptoBulkAll] at h
  omega
end Go.Proofs.YtfndiggpnkjacaaDoor.Bulk

namespace Go.Proofs.YtfndiggpnkjacaaDoor.R
open Go.ChangeShapes Go.WideShapes Go.ChangeAt Go.RowKit

theorem cellsByte : Tryd.prog.cellsOf 5 = 1 := by kernel_rfl
theorem cellsStr : Tryd.prog.cellsOf 9 = 1 := by kernel_rfl
theorem cellsBool : Tryd.prog.cellsOf 4 = 1 := by kernel_rfl
theorem cellsLine : Tryd.prog.cellsOf 44 = 2 := by kernel_rfl

theorem bulk_lits {H : Type} (k : IntKind) : ∀ zs : List Int, Rows.uptoBulkAll (lits (H := H) k zs) = zs.length
  | [] => rfl
  | z :: r => by
    have := bulk_lits (H := H) k r
    simp only [lits, List.map_cons, Rows.uptoBulkAll, Rows.uptoBulk, List.length_cons] at this ⊢
    omega
set_option maxRecDepth 100000 in
theorem bytes_arg {H : Type} {enc : TypeId × Value → H} {W : World} {r : Reach} {b0 base : Nat} {sp : Nat → Bool} {held : Bool} {v : Value} {d : DataW H} {p : List MemPlace}
    (hv : Value.okWide Tryd.prog W r b0 40 v) (h : DataW.Trod enc Tryd.prog W base sp held 40 v d p) :
    ∃ (A : Option Addr) (cap : Nat) (l : List UInt8), v = .slice A l.length cap ∧ l.length ≤ cap ∧ l.length ≤ Rows.uptoBulk d ∧ T.BytesIn W A l := by
  obtain ⟨a0, len, cap, rfl⟩ := okWide_slice Tryd.underlying40 hv
  obtain ⟨fuel, hf⟩ := h
  rcases open_ints Tryd.underlying40 Tryd.underlying5 cellsByte hf with ⟨hcs, hx⟩ | ⟨a, len', cap', zs, hcs, _, hl, hm, hz, hx, hcell, hwz⟩
  · simp only [Value.cells, List.cons.injEq, Value.slice.injEq, and_true] at hcs
    obtain ⟨rfl, rfl, rfl⟩ := hcs
    exact ⟨none, 0, [], rfl, Nat.le_refl _, Nat.zero_le _, fun h => absurd h (by simp)⟩
  · simp only [Value.cells, List.cons.injEq, Value.slice.injEq, and_true] at hcs
    obtain ⟨rfl, rfl, rfl⟩ := hcs
    have hle : len ≤ zs.length := by rw [hz]; split <;> omega
    have htl : ((zs.take len).map fun n => UInt8.ofNat n.toNat).length = len := by rw [List.length_map, List.length_take]; omega
    refine ⟨some a, cap, (zs.take len).map fun n => UInt8.ofNat n.toNat, by rw [htl], by rw [htl]; exact hl, ?_, fun hp => ?_⟩
    · rw [htl, (Prod.mk.inj hx).1, Rows.uptoBulk, bulk_lits, bulk_lits, List.length_take]; omega
    rw [htl] at hp
    obtain ⟨bk, off, rfl, hc⟩ := ints_at hcell (by omega)
    have h0 := hc 0 (by omega)
    refine ⟨bk, off, rfl, World.block_lt_of_cell? W ⟨bk, off + 0, none⟩ h0, fun j hj => ?_⟩
    rw [htl] at hj
    have hjz : j < zs.length := by omega
    have hw := bounds_u8 (hwz zs[j] (List.getElem_mem hjz))
    rw [hc j (by omega), List.getD_eq_getElem?_getD, List.getElem?_eq_getElem hjz]
    simp
    omega

def textOf : Value → List UInt8
  | .string s => s.data.toList
  | _ => []
def bareOf : Value → Bool
  | .bool b => b
  | _ => false
theorem bulk_pairs {H : Type} (D0 D1 : Nat → DataW H) (f : Nat → List UInt8 × Bool) : ∀ is : List Nat, (∀ i ∈ is, D0 i = .lit (.string (f i).1)) → P.bulk (is.map f) ≤ Rows.uptoBulkAll (is.map fun i => .agg [D0 i, D1 i])
  | [], _ => Nat.le_refl _
  | i :: r, h => by
    have ih := bulk_pairs D0 D1 f r (fun j hj => h j (by simp [hj]))
    rw [List.map_cons, List.map_cons, show f i = ((f i).1, (f i).2) from rfl, P.bulk]
    simp only [Rows.uptoBulkAll, Rows.uptoBulk, h i (by simp)]
    omega
set_option maxRecDepth 100000 in
theorem lines_arg {H : Type} {enc : TypeId × Value → H} {W : World} {r : Reach} {b0 base : Nat} {sp : Nat → Bool} {held : Bool} {v : Value} {d : DataW H} {p : List MemPlace}
    (hv : Value.okWide Tryd.prog W r b0 22 v) (h : DataW.Trod enc Tryd.prog W base sp held 22 v d p) :
    ∃ (A : Option Addr) (cap : Nat) (xs : List (List UInt8 × Bool)), v = .slice A xs.length cap ∧ P.bulk xs ≤ Rows.uptoBulk d ∧ T.LinesIn W A xs := by
  obtain ⟨a0, len, cap, rfl⟩ := okWide_slice Tryd.underlying22 hv
  obtain ⟨fuel, hf⟩ := h
  rcases Deep.open_slice_pairs Tryd.underlying22 Tryd.underlying44 cellsLine rfl rfl cellsStr cellsBool hf with ⟨hcs, hx⟩ | ⟨a, len', cap', m, n, V0, V1, D0, D1, P0, P1, hcs, _, hl, hm, hmm, hx, hcell⟩
  · simp only [Value.cells, List.cons.injEq, Value.slice.injEq, and_true] at hcs
    obtain ⟨rfl, rfl, rfl⟩ := hcs
    exact ⟨none, 0, [], rfl, Nat.zero_le _, fun h => absurd h (by simp)⟩
  · simp only [Value.cells, List.cons.injEq, Value.slice.injEq, and_true] at hcs
    obtain ⟨rfl, rfl, rfl⟩ := hcs
    have hle : len ≤ m := by rw [hmm]; split <;> omega
    have each : ∀ i, i < len → W.cell? (a.add (i * 2)) = some (.string ⟨(textOf (V0 i)).toArray⟩) ∧ W.cell? (a.add (i * 2 + 1)) = some (.bool (bareOf (V1 i))) ∧ D0 i = .lit (.string (textOf (V0 i))) := by
      intro i hi
      obtain ⟨c0, c1, t0, t1⟩ := hcell i (by omega)
      obtain ⟨s, hs, hd, _⟩ := DataW.trod_string Tryd.underlying9 t0
      obtain ⟨b, hb, _⟩ := DataW.trod_bool Tryd.underlying4 t1
      simp only [List.cons.injEq, and_true] at hs hb
      rw [hs] at c0
      rw [hb] at c1
      refine ⟨by rw [c0, hs]; simp [textOf], by rw [c1, hb]; rfl, by rw [(Prod.mk.inj hd).1, hs]; rfl⟩
    have htl : ((List.range len).map fun i => (textOf (V0 i), bareOf (V1 i))).length = len := by simp
    refine ⟨some a, cap, (List.range len).map fun i => (textOf (V0 i), bareOf (V1 i)), by rw [htl], ?_, fun hp => ?_⟩
    · have := bulk_pairs D0 D1 (fun i => (textOf (V0 i), bareOf (V1 i))) (List.range len) (fun i hi => (each i (List.mem_range.1 hi)).2.2)
      rw [(Prod.mk.inj hx).1, Rows.uptoBulk]; omega
    rw [htl] at hp
    obtain ⟨bk, off, spot⟩ := a
    have hspot : spot = none := by simpa [Addr.add] using World.cell?_spot (each 0 hp).1
    subst hspot
    have h0 := (each 0 hp).1
    refine ⟨bk, off, rfl, World.block_lt_of_cell? W _ h0, fun j hj => ?_⟩
    rw [htl] at hj
    have := each j hj
    rw [add_plain, add_plain, ← Nat.add_assoc] at this
    simp only [List.getElem_map, List.getElem_range]
    exact ⟨this.1, this.2.1⟩
end Go.Proofs.YtfndiggpnkjacaaDoor.R

namespace Go.Proofs.YtfndiggpnkjacaaDoor.Mg
set_option linter.unusedVariables false
set_option linter.unusedSimpArgs false

abbrev Ln := List UInt8 × Bool
def cutl {α : Type} (l : List α) (k n : Int) : List α := (l.drop k.toNat).take n.toNat
/-! Stretches of a text, one behind the other. -/
theorem cutl_len {α : Type} {l : List α} {k n : Int} (h1 : 0 ≤ n) (h0 : 0 ≤ k) (h2 : k + n ≤ l.length) : (cutl l k n).length = n.toNat := by
  rw [cutl, List.length_take, List.length_drop]; omega
theorem cutl_app {α : Type} {l : List α} {k n : Int} (h0 : 0 ≤ k) (h1 : 0 ≤ n) : cutl l k n ++ l.drop (k + n).toNat = l.drop k.toNat := by
  have e : (k + n).toNat = k.toNat + n.toNat := by omega
  rw [cutl, e, ← List.drop_drop, List.take_append_drop]
theorem cutl_at {α : Type} {l : List α} {k n : Int} {i : Nat} (h0 : 0 ≤ k) : (i : Int) < n → (cutl l k n)[i]? = l[(k + i).toNat]? := fun h => by
  rw [cutl, List.getElem?_take_of_lt (by omega), List.getElem?_drop, show k.toNat + i = (k + i).toNat by omega]
end Go.Proofs.YtfndiggpnkjacaaDoor.Mg
