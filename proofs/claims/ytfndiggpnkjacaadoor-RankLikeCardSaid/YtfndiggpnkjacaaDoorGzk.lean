/-
  The reference's likenesses in order, one by one put in.
  A thousand times a float, and how many thousandths that are, in plain words.
  The reference's thousandths.
-/
import Derived.Test.YtfndiggpnkjacaaDoorGzj
import Derived.Deep.QuietTactic
import Derived.Laws.AppendOwnNone
import Derived.Test.YtfndiggpnkjacaaDoorGzf
namespace Go.Proofs.YtfndiggpnkjacaaDoor.Rk
set_option linter.unusedVariables false
set_option linter.unusedSimpArgs false
open Go.RowKit Go.Sort Go.Shelf
open T
open I (alloc1 own_at own_below)

open V (drawn_below)
open N (Ln ListsIn)
open Fp (fV)

/-- A float is stored as it is. -/
theorem run_store_fk (P : Program) (w : World) (a : Addr) (m : Mode) (b : Nat) : (store a (.float .f64 b) m).run P w = stored P w a (.float .f64 b) m := run_store P w a _ m rfl
attribute [local go_sem] run_store_fk
/-- Likenesses with room. -/
structure Lx (w : World) (A : Option Addr) (c : Nat) (l : List Kx) : Prop where
  i : LksIn w A l
  r : l.length ≤ c
  z : A = none → c = 0
theorem Lx.below {w w' : World} {A : Option Addr} {c : Nat} {l : List Kx} (h : Lx w A c l) (hb : Below w.heap.size w w') : Lx w' A c l := ⟨h.i.below hb, h.r, h.z⟩
theorem lx_own {w : World} {base : Nat} {v : Value} {l : List Kx} (h : w.ownsRow base 37 2 v l.length (lkCells l)) : ∃ A c, v = .slice A l.length c ∧ Lx w A c l := by
  rcases h.2 with ⟨rfl, h0⟩ | ⟨g, cap, cur, rfl, h1, h2, h3, h4⟩
  · obtain rfl : l = [] := List.length_eq_zero_iff.1 h0
    exact ⟨none, 0, rfl, ⟨fun h => absurd h (by simp), Nat.le_refl _, fun _ => rfl⟩⟩
  · exact ⟨_, _, rfl, ⟨lks_own h, h3, fun e => (by cases e)⟩⟩
theorem take_isK {A : Option Addr} {n c k : Nat} (hkn : k ≤ n) (hnc : n ≤ c) (hz : A = none → c = 0) (W : World) : Sem.run Tryd.prog (Instr.sliceAt 32 (.slice A n c) none (some (.int .i64 (k : Int))) none) W = .ok (.slice A k c) W := by
  have h0k : (0 : Int) ≤ (k : Int) := by omega
  have hkc : (k : Int) ≤ (c : Int) := by omega
  cases A with
  | none =>
    obtain rfl := hz rfl
    obtain rfl : n = 0 := by omega
    obtain rfl : k = 0 := by omega
    go_simp
  | some ad =>
    by_cases hc : c = 0
    · subst hc
      obtain rfl : n = 0 := by omega
      obtain rfl : k = 0 := by omega
      go_simp
    · go_simp
/-- Where a[k:] lies. -/
def dropK (B : Option Addr) (c k : Nat) : Option Addr := if c = k then B else B.map fun ad => ad.add (k * 2)
theorem drop_isK {B : Option Addr} {n c k : Nat} (hkn : k ≤ n) (hnc : n ≤ c) (hz : B = none → c = 0) (W : World) : Sem.run Tryd.prog (Instr.sliceAt 32 (.slice B n c) (some (.int .i64 (k : Int))) none none) W = .ok (.slice (dropK B c k) (n - k) (c - k)) W := by
  have h0k : (0 : Int) ≤ (k : Int) := by omega
  have hkn' : (k : Int) ≤ (n : Int) := by omega
  have hnc' : (n : Int) ≤ (c : Int) := by omega
  cases B with
  | none =>
    obtain rfl := hz rfl
    obtain rfl : n = 0 := by omega
    obtain rfl : k = 0 := by omega
    rw [show dropK none 0 0 = none from rfl]
    go_simp
  | some ad =>
    by_cases hc : c = k
    · subst hc
      obtain rfl : n = c := by omega
      rw [show dropK (some ad) n n = some ad from if_pos rfl, Nat.sub_self]
      go_simp
    · rw [show dropK (some ad) c k = some (ad.add (k * 2)) from if_neg hc]
      go_simp
theorem lks_take {w : World} {A : Option Addr} {l : List Kx} (h : LksIn w A l) (k : Nat) : LksIn w A (l.take k) := fun hp => by
  rw [List.length_take] at hp
  obtain ⟨bk, off, e, hlt, hl⟩ := h (by omega)
  refine ⟨bk, off, e, hlt, fun j hj => ?_⟩
  rw [List.length_take] at hj
  simp only [List.getElem_take]
  exact hl j (by omega)
theorem lks_drop {w : World} {A : Option Addr} {c : Nat} {l : List Kx} (h : Lx w A c l) (k : Nat) : LksIn w (dropK A c k) (l.drop k) := fun hp => by
  rw [List.length_drop] at hp
  obtain ⟨bk, off, rfl, hlt, hl⟩ := h.i (by omega)
  have := h.r
  refine ⟨bk, off + k * 2, by rw [dropK, if_neg (by omega)]; simp [Addr.add], hlt, fun j hj => ?_⟩
  rw [List.length_drop] at hj
  have c0 := hl (k + j) (by omega)
  rw [List.getElem_drop]
  rw [show off + k * 2 + j * 2 = off + (k + j) * 2 by omega]
  exact c0
theorem lks_one (w : World) (x : Kx) : LksIn (w.alloc (.cells #[.int .i64 x.1, fV x.2.toNat] 37)) (some ⟨w.heap.size, 0, none⟩) [x] := fun _ => by
  have hx := heap_alloc_new w (.cells #[.int .i64 x.1, fV x.2.toNat] 37)
  refine ⟨w.heap.size, 0, rfl, by simp, fun j hj => ?_⟩
  match j, hj with
  | 0, _ => exact ⟨L.blk_cell hx 0, L.blk_cell hx 1⟩
set_option maxRecDepth 100000 in
/-- append of a row of likenesses onto a row of likenesses that the call owns, wherever they lie. -/
theorem wpList_append_lks {w : World} {ops : Array Oper} {rest : List Oper} {o : Oper} {a : Act} {Q : Exit → Act → World → Prop} (hgd : o.guard = none) (s x : Operand)
    (ho : o.op = .call { callee := .builtin .append, args := #[s, x], argTypes := #[32, 32] })
    (base : Nat) (v : Value) (xs l : List Kx) (hs : a.eval s = v) (hown : w.ownsRow base 37 2 v xs.length (lkCells xs))
    (LA : Option Addr) (lc : Nat) (hx : a.eval x = .slice LA l.length lc) (hL : LksIn w LA l) (hn : LA = none → lc = 0) (hsm : xs.length + l.length ≤ 1000000) (hbase : base ≤ w.heap.size)
    (h : ∀ v' w', w'.ownsRow base 37 2 v' (xs ++ l).length (lkCells (xs ++ l)) → w.grownBy w' v.ownBlock → (v'.ownBlock = v.ownBlock ∨ v'.ownBlock = some w.heap.size) → wpList Tryd.prog ops Q rest (a.put o.dst v') w') :
    wpList Tryd.prog ops Q (o :: rest) a w := by
  obtain ⟨i0, hi0, hz0, hz1, hz2⟩ := info_parts infoLk
  have hlen : (lkCells l).length = l.length * 2 := lkCells_len l
  cases LA with
  | none =>
    have hl0 : l = [] := by
      rcases Nat.eq_zero_or_pos l.length with h0 | hp
      · exact List.length_eq_zero_iff.1 h0
      · obtain ⟨_, _, h0, _⟩ := hL hp; cases h0
    obtain rfl := hn rfl
    subst hl0
    refine wpList_append_own_none hgd s x _ ho base 37 i0 2 Tryd.underlying32 hi0 v _ _ hs hown hx (h v w (by simpa using hown) ⟨rfl, rfl, rfl, Nat.le_refl _, fun _ _ _ => rfl⟩ (.inl rfl))
  | some ad =>
    refine wpList_append_own_at w hgd s x _ ho base 37 i0 _ 2 16 Tryd.underlying32 hi0 hz0 hz1 hz2 rfl (by decide) v _ _ hs hown ad l.length lc (lkCells l) hx hlen (fun j u hu => ?_) (lkCells_one l) (by unfold maxLen; omega) (by omega) hbase (fun v' w' h1 h2 _ h4 => h v' w' (by rw [List.length_append, lkCells_app]; exact h1) h2 h4)
    by_cases hp : 0 < l.length
    · obtain ⟨bk, off, e, _, hI⟩ := hL hp
      injection e with e
      subst e
      have := lks_news hI j u hu
      by_cases h0 : j = 0
      · subst h0
        simpa [Addr.add] using this
      · simpa [Addr.add, h0] using this
    · have := (List.getElem?_eq_some_iff.1 hu).1
      rw [hlen] at this
      omega
set_option maxRecDepth 100000 in
set_option maxHeartbeats 8000000 in
theorem rall_any (A B : Option Addr) (ls : List (List Ln)) (t : List Ln) (c c' : Nat) (w : World) (hA : ListsIn w A ls) (hB : LinesIn w B t) (h8 : ls.length ≤ 8) (hcb : t.length ≤ c') (hlk : ∀ l ∈ ls, LkC 15 l t) :
    Calls Tryd.prog 17 #[.slice A ls.length c, .slice B t.length c'] w (AlEnd w ls t) := by
  obtain ⟨W0, hW0⟩ : ∃ W : World, W = w.alloc (.cells #[] 37) := ⟨_, rfl⟩
  have hb0 : Below w.heap.size w W0 := by rw [hW0]; exact alloc1 _ _
  have HB0 := Lib.hid hb0
  have HO0 : Hid (Lx W0 (some ⟨w.heap.size, 0, none⟩) 0 []) := Lib.hid ⟨fun h => absurd h (by simp), by simp, fun e => (by cases e)⟩
  have HA := Lib.hid (hA.below hb0)
  have HBT := Lib.hid (hB.below hb0)
  have HLK := Lib.hid hlk
  clear hA hB hb0 hlk
  go_enter Tryd.func17, Tryd.ntmps17
  go_wp2_with fail
  rw [← hW0]
  obtain ⟨xb, hxb⟩ : ∃ q, q = w.heap.size := ⟨_, rfl⟩
  rw [← hxb] at HO0
  rw [← hxb]
  clear hW0 hxb
  go_loopg [5, 6] ls.length (fun q v i wr => ∃ (k : Nat) (ws : List UInt64) (o : List Kx) (B : Option Addr) (c : Nat), k ≤ ls.length ∧ i = .int .i64 (k : Int) ∧ v = .slice B o.length c ∧ ls.length - k ≤ q ∧ Hid (ws.length = k) ∧ Hid (Ws ls t ws) ∧ Hid (Rd ws o) ∧ Hid (Lx wr B c o) ∧ Hid (Below W0.heap.size W0 wr))
  case atStart => exact ⟨0, [], [], _, 0, Nat.zero_le _, rfl, rfl, by omega, Lib.hid rfl, Lib.hid (fun i h => absurd h (by simp)), Lib.hid Rd.nil, HO0, Lib.hid (Below.refl _ _)⟩
  case round =>
    obtain ⟨k, ws, o, D, c, hk, rfl, rfl, hm, HWL, HWS, HRD, HX, HBR⟩ := hrel
    by_cases hlt : k < ls.length
    · obtain ⟨bk, off, hAe, hbk, hat⟩ := HA.out (by omega)
      subst hAe
      obtain ⟨LA, lc, e0, hI, hlc⟩ := hat k hlt
      have d0 := (HBR.out.cell (p := ⟨bk, off + k, none⟩) hbk).trans e0
      have HC := Lib.hid ((HLK.out _ (List.getElem_mem hlt)).call wr (hI.below HBR.out) (HBT.out.below HBR.out) hlc hcb)
      have HLW : Hid (∀ x : UInt64, Lw ls[k] t x.toNat → Ws ls t (ws ++ [x])) := Lib.hid (fun x hx i h h' => by
        rw [List.length_append, List.length_singleton] at h
        by_cases e : i < ws.length
        · rw [List.getElem_append_left e]
          exact HWS.out i e h'
        · have hik : i = k := by have := HWL.out; omega
          subst hik
          rw [List.getElem_append_right (by omega)]
          simpa using hx)
      have hol : o.length ≤ 8 := by rw [HRD.out.len, HWL.out]; omega
      have h0k : (0 : Int) ≤ (k : Int) := by omega
      have hki : (k : Int) < (ls.length : Int) := by omega
      clear hat e0 hI hlc
      obtain ⟨m, hm'⟩ : ∃ m, m = ls[k]'hlt := ⟨_, rfl⟩
      rw [← hm'] at d0 HC HLW
      clear hm'
      go_upto_region 6 with ((go_at_call 15; with_reducible refine (HC.out).mono ?_; rintro e w1 ⟨x, rfl, hx, hb1⟩))
      obtain ⟨wo, hwo⟩ : ∃ W : World, W = w1.alloc (.cells #[.int .i64 (k : Int), fV x.toNat] 37) := ⟨_, rfl⟩
      have hb2 : Below w1.heap.size w1 wo := by rw [hwo]; exact alloc1 _ _
      have hg : wo.heap[w1.heap.size]? = some (.cells #[.int .i64 (k : Int), fV x.toNat] 37 (0, 0)) := by rw [hwo]; exact heap_alloc_new w1 _
      have hb12 := hb1.trans (hb2.mono hb1.size)
      rw [← hwo]
      obtain ⟨gb, hgb⟩ : ∃ q, q = w1.heap.size := ⟨_, rfl⟩
      rw [← hgb] at hg
      simp only [← hgb]
      have HG := Lib.hid hg
      have HXW := Lib.hid hx
      replace HX := Lib.hid (HX.out.below hb12)
      replace HBR := Lib.hid (HBR.out.trans (hb12.mono HBR.out.size))
      have HPUT : Hid (∀ (j : Nat) (hj : j ≤ o.length), (∀ (j' : Nat) (h : j' < o.length), j' < j → lx o[j'] ((k : Int), x) = true) → (∀ h : j < o.length, lx o[j] ((k : Int), x) = false) → Rd (ws ++ [x]) (o.take j ++ [((k : Int), x)] ++ o.drop j)) := Lib.hid (fun j hj h1 h2 => by
        have hkw : (k : Int) = (ws.length : Int) := by rw [HWL.out]
        rw [hkw] at h1 h2 ⊢
        exact HRD.out.put x hj h1 h2)
      clear hwo hb1 hb2 hb12 hg hgb hx d0 HC
      go_wp2_with fail
      go_loopg [8] o.length (fun q i wr => ∃ j : Nat, j ≤ o.length ∧ i = .int .i64 (j : Int) ∧ o.length - j ≤ q ∧ Hid (∀ (j' : Nat) (h : j' < o.length), j' < j → lx o[j'] ((k : Int), x) = true) ∧ Hid (Below wo.heap.size wo wr))
      case atStart => exact ⟨0, Nat.zero_le _, rfl, by omega, Lib.hid (fun _ _ h => absurd h (by omega)), Lib.hid (Below.refl _ _)⟩
      case round =>
        obtain ⟨j, hj, rfl, hmj, HLT, HBW⟩ := hrel
        replace HG := Lib.hid ((HBW.out.block _ (L.blk_lt HG.out)).trans HG.out)
        replace HX := Lib.hid (HX.out.below HBW.out)
        replace HBR := Lib.hid (HBR.out.trans (HBW.out.mono HBR.out.size))
        have HBO := HBW
        clear HBW
        have h0j : (0 : Int) ≤ (j : Int) := by omega
        by_cases hjl : j < o.length
        · obtain ⟨rb, ro, hBe, hrb, hat⟩ := HX.out.i (by omega)
          subst hBe
          obtain ⟨p0, p1⟩ := hat j hjl
          have HRB := Lib.hid hrb
          have hjn : (j : Int) < (o.length : Int) := by omega
          obtain ⟨z, hz⟩ : ∃ z : Kx, z = o[j]'hjl := ⟨_, rfl⟩
          rw [← hz] at p0 p1
          have HZ := Lib.hid hz
          have HAH := Lib.hid (fun W => ahead_any z ((k : Int), x) W)
          obtain ⟨z0, z1⟩ := z
          simp only at p0 p1
          clear hz hat hrb
          go_upto_region 7 with fail
          cases hle : lx (z0, z1) ((k : Int), x) with
          | true =>
            have HLE := Lib.hid hle
            rw [hle] at HAH
            clear hle
            refine wp_region_held_drew (S := (Keeps wr)) (by kernel_rfl) (keeps_drew _) (fun hK0 => ?_)
            refine wpAnyH_take (i := 0) (oi := { dst := some 25, op := Go.Op.move (Go.Operand.tmp 8), type := 3, pos := "ref.go:44", after := #[], guard := none }) (v := ?_) rfl (by kernel_rfl) (by kernel_rfl) (by kernel_rfl) (fun _ _ _ h => h) (Or.inl ⟨by rfl, ?_⟩) hK0 ?_
            rotate_left
            · (intro wz hSz; (try dsimp only at hSz); go_simp; try with_reducible rfl)
            simp only [Act.put, List.setIfInBounds_toArray, List.set_cons_zero, List.set_cons_succ]
            refine wpAnyH_take (i := 1) (oi := { dst := some 26, op := Go.Op.move (Go.Operand.tmp 5), type := 32, pos := "ref.go:44", after := #[], guard := none }) (v := ?_) rfl (by kernel_rfl) (by kernel_rfl) (by kernel_rfl) (fun _ _ _ h => h) (Or.inl ⟨by rfl, ?_⟩) hK0 ?_
            rotate_left
            · (intro wz hSz; (try dsimp only at hSz); go_simp; try with_reducible rfl)
            simp only [Act.put, List.setIfInBounds_toArray, List.set_cons_zero, List.set_cons_succ]
            refine wpAnyH_take (i := 2) (oi := { dst := some 27, op := Go.Op.call { callee := Go.Callee.builtin Go.Builtin.len, args := #[Go.Operand.tmp 26], argTypes := #[32] }, type := 3, pos := "ref.go:44", after := #[{ on := 1, ground := Go.Ground.data }], guard := none }) (v := ?_) rfl (by kernel_rfl) (by kernel_rfl) (by kernel_rfl) (fun _ _ _ h => h) (Or.inl ⟨by rfl, ?_⟩) hK0 ?_
            rotate_left
            · (intro wz hSz; (try dsimp only at hSz); go_simp; try with_reducible rfl)
            simp only [Act.put, List.setIfInBounds_toArray, List.set_cons_zero, List.set_cons_succ]
            refine wpAnyH_take (i := 3) (oi := { dst := some 28, op := Go.Op.binOp Go.BinOp.lss 3 (Go.Operand.tmp 25) (Go.Operand.tmp 27) 3, type := 4, pos := "ref.go:44", after := #[{ on := 0, ground := Go.Ground.data }, { on := 2, ground := Go.Ground.data }], guard := none }) (v := ?_) rfl (by kernel_rfl) (by kernel_rfl) (by kernel_rfl) (fun _ _ _ h => h) (Or.inl ⟨by rfl, ?_⟩) hK0 ?_
            rotate_left
            · (intro wz hSz; (try dsimp only at hSz); go_simp; try with_reducible rfl)
            simp only [Act.put, List.setIfInBounds_toArray, List.set_cons_zero, List.set_cons_succ]
            refine wpAnyH_take (i := 4) (oi := { dst := some 29, op := Go.Op.move (Go.Operand.tmp 28), type := 4, pos := "ref.go:44", after := #[{ on := 3, ground := Go.Ground.data }], guard := none }) (v := ?_) rfl (by kernel_rfl) (by kernel_rfl) (by kernel_rfl) (fun _ _ _ h => h) (Or.inl ⟨by rfl, ?_⟩) hK0 ?_
            rotate_left
            · (intro wz hSz; (try dsimp only at hSz); go_simp; try with_reducible rfl)
            simp only [Act.put, List.setIfInBounds_toArray, List.set_cons_zero, List.set_cons_succ]
            refine wpAnyH_take (i := 5) (oi := { dst := some 30, op := Go.Op.move (Go.Operand.tmp 5), type := 32, pos := "ref.go:44", after := #[{ on := 4, ground := Go.Ground.guard }], guard := some (4, true) }) (v := ?_) rfl (by kernel_rfl) (by kernel_rfl) (by kernel_rfl) (fun _ _ _ h => h) (Or.inl ⟨by rfl, ?_⟩) hK0 ?_
            rotate_left
            · (intro wz hSz; (try dsimp only at hSz); go_simp; try with_reducible rfl)
            simp only [Act.put, List.setIfInBounds_toArray, List.set_cons_zero, List.set_cons_succ]
            refine wpAnyH_take (i := 6) (oi := { dst := some 31, op := Go.Op.move (Go.Operand.tmp 8), type := 3, pos := "ref.go:44", after := #[{ on := 4, ground := Go.Ground.guard }], guard := some (4, true) }) (v := ?_) rfl (by kernel_rfl) (by kernel_rfl) (by kernel_rfl) (fun _ _ _ h => h) (Or.inl ⟨by rfl, ?_⟩) hK0 ?_
            rotate_left
            · (intro wz hSz; (try dsimp only at hSz); go_simp; try with_reducible rfl)
            simp only [Act.put, List.setIfInBounds_toArray, List.set_cons_zero, List.set_cons_succ]
            refine wpAnyH_take (i := 7) (oi := { dst := some 32, op := Go.Op.indexAddr 32 (Go.Operand.tmp 30) (Go.Operand.tmp 31), type := 0, pos := "ref.go:44", after := #[{ on := 5, ground := Go.Ground.data }, { on := 6, ground := Go.Ground.data }, { on := 4, ground := Go.Ground.guard }], guard := some (4, true) }) (v := ?_) rfl (by kernel_rfl) (by kernel_rfl) (by kernel_rfl) (fun _ _ _ h => h) (Or.inl ⟨by rfl, ?_⟩) hK0 ?_
            rotate_left
            · (intro wz hSz; (try dsimp only at hSz); go_simp; try with_reducible rfl)
            simp only [Act.put, List.setIfInBounds_toArray, List.set_cons_zero, List.set_cons_succ]
            refine wpAnyH_take (i := 8) (oi := { dst := some 33, op := Go.Op.load 37 (Go.Operand.tmp 32), type := 37, pos := "ref.go:44", after := #[{ on := 7, ground := Go.Ground.data }, { on := 4, ground := Go.Ground.guard }], guard := some (4, true) }) (v := ?_) rfl (by kernel_rfl) (by kernel_rfl) (by kernel_rfl) (fun _ _ _ h => h) (Or.inl ⟨by rfl, ?_⟩) hK0 ?_
            rotate_left
            · (intro wz hSz; have hcz := (Keeps.b hSz).cell (p := ⟨rb, _, none⟩) HRB.out |>.trans p0; have hcz2 := (Keeps.b hSz).cell (p := ⟨rb, _, none⟩) HRB.out |>.trans p1; go_simp; try with_reducible rfl)
            simp only [Act.put, List.setIfInBounds_toArray, List.set_cons_zero, List.set_cons_succ]
            refine wpAnyH_take (i := 9) (oi := { dst := some 34, op := Go.Op.load 37 (Go.Operand.tmp 7), type := 37, pos := "ref.go:44", after := #[{ on := 4, ground := Go.Ground.guard }], guard := some (4, true) }) (v := ?_) rfl (by kernel_rfl) (by kernel_rfl) (by kernel_rfl) (fun _ _ _ h => h) (Or.inl ⟨by rfl, ?_⟩) hK0 ?_
            rotate_left
            · (intro wz hSz; have hxz := ((Keeps.b hSz).block _ (L.blk_lt HG.out)).trans HG.out; have hcz := L.blk_cell hxz 0; have hcz2 := L.blk_cell hxz 1; simp only [List.getElem?_toArray, List.getElem?_cons_zero, List.getElem?_cons_succ] at hcz hcz2; go_simp; try with_reducible rfl)
            simp only [Act.put, List.setIfInBounds_toArray, List.set_cons_zero, List.set_cons_succ]
            refine wpAnyH_ready (rs := [10]) (by kernel_rfl) (by simp) ?_
            refine AllReadyH.cons (o := { dst := some 35, op := Go.Op.call { callee := Go.Callee.value (Go.Operand.func 31), args := #[Go.Operand.tmp 33, Go.Operand.tmp 34], argTypes := #[37, 37] }, type := 4, pos := "ref.go:44", after := #[{ on := 8, ground := Go.Ground.data }, { on := 9, ground := Go.Ground.data }, { on := 4, ground := Go.Ground.chain }, { on := 4, ground := Go.Ground.guard }], guard := some (4, true) }) rfl (fun K hK => ?_) AllReadyH.nil
            go_simp
            with_reducible refine (HAH.out _).mono ?_
            rintro r wq1 ⟨rfl, hbq⟩
            go_wp2_with fail
            refine hK.out _ _ (Keeps.trans hK0 hbq) (fun hK1 => ?_)
            clear hK K hbq hK0
            refine wpAnyH_take (i := 11) (oi := { dst := some 36, op := Go.Op.pick (Go.Operand.tmp 29) (Go.Operand.tmp 35) (Go.Operand.const (Go.Value.bool false)), type := 4, pos := "ref.go:44", after := #[{ on := 4, ground := Go.Ground.data }, { on := 10, ground := Go.Ground.data }], guard := none }) (v := ?_) rfl (by kernel_rfl) (by kernel_rfl) (by kernel_rfl) (fun _ _ _ h => h) (Or.inl ⟨by rfl, ?_⟩) hK1 ?_
            rotate_left
            · (intro wz hSz; (try dsimp only at hSz); go_simp; try with_reducible rfl)
            simp only [Act.put, List.setIfInBounds_toArray, List.set_cons_zero, List.set_cons_succ]
            refine wpAnyH_done (by kernel_rfl) ?_ _
            go_wp2_with fail
            go_roundg (o.length - (j + 1))
            case rel => exact ⟨j + 1, by omega, by go_num, by omega, Lib.hid (fun j' h hjj => by
              by_cases e : j' = j
              · subst e
                rw [← HZ.out]
                exact HLE.out
              · exact HLT.out j' h (by omega)), Lib.hid (HBO.out.trans ((Keeps.b hK1).mono HBO.out.size))⟩
            case measure => omega
          | false =>
            have HLE := Lib.hid (show ∀ h : j < o.length, lx o[j] ((k : Int), x) = false by intro h; rw [← HZ.out]; exact hle)
            rw [hle] at HAH
            clear hle
            refine wp_region_held_drew (S := (Keeps wr)) (by kernel_rfl) (keeps_drew _) (fun hK0 => ?_)
            refine wpAnyH_take (i := 0) (oi := { dst := some 25, op := Go.Op.move (Go.Operand.tmp 8), type := 3, pos := "ref.go:44", after := #[], guard := none }) (v := ?_) rfl (by kernel_rfl) (by kernel_rfl) (by kernel_rfl) (fun _ _ _ h => h) (Or.inl ⟨by rfl, ?_⟩) hK0 ?_
            rotate_left
            · (intro wz hSz; (try dsimp only at hSz); go_simp; try with_reducible rfl)
            simp only [Act.put, List.setIfInBounds_toArray, List.set_cons_zero, List.set_cons_succ]
            refine wpAnyH_take (i := 1) (oi := { dst := some 26, op := Go.Op.move (Go.Operand.tmp 5), type := 32, pos := "ref.go:44", after := #[], guard := none }) (v := ?_) rfl (by kernel_rfl) (by kernel_rfl) (by kernel_rfl) (fun _ _ _ h => h) (Or.inl ⟨by rfl, ?_⟩) hK0 ?_
            rotate_left
            · (intro wz hSz; (try dsimp only at hSz); go_simp; try with_reducible rfl)
            simp only [Act.put, List.setIfInBounds_toArray, List.set_cons_zero, List.set_cons_succ]
            refine wpAnyH_take (i := 2) (oi := { dst := some 27, op := Go.Op.call { callee := Go.Callee.builtin Go.Builtin.len, args := #[Go.Operand.tmp 26], argTypes := #[32] }, type := 3, pos := "ref.go:44", after := #[{ on := 1, ground := Go.Ground.data }], guard := none }) (v := ?_) rfl (by kernel_rfl) (by kernel_rfl) (by kernel_rfl) (fun _ _ _ h => h) (Or.inl ⟨by rfl, ?_⟩) hK0 ?_
            rotate_left
            · (intro wz hSz; (try dsimp only at hSz); go_simp; try with_reducible rfl)
            simp only [Act.put, List.setIfInBounds_toArray, List.set_cons_zero, List.set_cons_succ]
            refine wpAnyH_take (i := 3) (oi := { dst := some 28, op := Go.Op.binOp Go.BinOp.lss 3 (Go.Operand.tmp 25) (Go.Operand.tmp 27) 3, type := 4, pos := "ref.go:44", after := #[{ on := 0, ground := Go.Ground.data }, { on := 2, ground := Go.Ground.data }], guard := none }) (v := ?_) rfl (by kernel_rfl) (by kernel_rfl) (by kernel_rfl) (fun _ _ _ h => h) (Or.inl ⟨by rfl, ?_⟩) hK0 ?_
            rotate_left
            · (intro wz hSz; (try dsimp only at hSz); go_simp; try with_reducible rfl)
            simp only [Act.put, List.setIfInBounds_toArray, List.set_cons_zero, List.set_cons_succ]
            refine wpAnyH_take (i := 4) (oi := { dst := some 29, op := Go.Op.move (Go.Operand.tmp 28), type := 4, pos := "ref.go:44", after := #[{ on := 3, ground := Go.Ground.data }], guard := none }) (v := ?_) rfl (by kernel_rfl) (by kernel_rfl) (by kernel_rfl) (fun _ _ _ h => h) (Or.inl ⟨by rfl, ?_⟩) hK0 ?_
            rotate_left
            · (intro wz hSz; (try dsimp only at hSz); go_simp; try with_reducible rfl)
            simp only [Act.put, List.setIfInBounds_toArray, List.set_cons_zero, List.set_cons_succ]
            refine wpAnyH_take (i := 5) (oi := { dst := some 30, op := Go.Op.move (Go.Operand.tmp 5), type := 32, pos := "ref.go:44", after := #[{ on := 4, ground := Go.Ground.guard }], guard := some (4, true) }) (v := ?_) rfl (by kernel_rfl) (by kernel_rfl) (by kernel_rfl) (fun _ _ _ h => h) (Or.inl ⟨by rfl, ?_⟩) hK0 ?_
            rotate_left
            · (intro wz hSz; (try dsimp only at hSz); go_simp; try with_reducible rfl)
            simp only [Act.put, List.setIfInBounds_toArray, List.set_cons_zero, List.set_cons_succ]
            refine wpAnyH_take (i := 6) (oi := { dst := some 31, op := Go.Op.move (Go.Operand.tmp 8), type := 3, pos := "ref.go:44", after := #[{ on := 4, ground := Go.Ground.guard }], guard := some (4, true) }) (v := ?_) rfl (by kernel_rfl) (by kernel_rfl) (by kernel_rfl) (fun _ _ _ h => h) (Or.inl ⟨by rfl, ?_⟩) hK0 ?_
            rotate_left
            · (intro wz hSz; (try dsimp only at hSz); go_simp; try with_reducible rfl)
            simp only [Act.put, List.setIfInBounds_toArray, List.set_cons_zero, List.set_cons_succ]
            refine wpAnyH_take (i := 7) (oi := { dst := some 32, op := Go.Op.indexAddr 32 (Go.Operand.tmp 30) (Go.Operand.tmp 31), type := 0, pos := "ref.go:44", after := #[{ on := 5, ground := Go.Ground.data }, { on := 6, ground := Go.Ground.data }, { on := 4, ground := Go.Ground.guard }], guard := some (4, true) }) (v := ?_) rfl (by kernel_rfl) (by kernel_rfl) (by kernel_rfl) (fun _ _ _ h => h) (Or.inl ⟨by rfl, ?_⟩) hK0 ?_
            rotate_left
            · (intro wz hSz; (try dsimp only at hSz); go_simp; try with_reducible rfl)
            simp only [Act.put, List.setIfInBounds_toArray, List.set_cons_zero, List.set_cons_succ]
            refine wpAnyH_take (i := 8) (oi := { dst := some 33, op := Go.Op.load 37 (Go.Operand.tmp 32), type := 37, pos := "ref.go:44", after := #[{ on := 7, ground := Go.Ground.data }, { on := 4, ground := Go.Ground.guard }], guard := some (4, true) }) (v := ?_) rfl (by kernel_rfl) (by kernel_rfl) (by kernel_rfl) (fun _ _ _ h => h) (Or.inl ⟨by rfl, ?_⟩) hK0 ?_
            rotate_left
            · (intro wz hSz; have hcz := (Keeps.b hSz).cell (p := ⟨rb, _, none⟩) HRB.out |>.trans p0; have hcz2 := (Keeps.b hSz).cell (p := ⟨rb, _, none⟩) HRB.out |>.trans p1; go_simp; try with_reducible rfl)
            simp only [Act.put, List.setIfInBounds_toArray, List.set_cons_zero, List.set_cons_succ]
            refine wpAnyH_take (i := 9) (oi := { dst := some 34, op := Go.Op.load 37 (Go.Operand.tmp 7), type := 37, pos := "ref.go:44", after := #[{ on := 4, ground := Go.Ground.guard }], guard := some (4, true) }) (v := ?_) rfl (by kernel_rfl) (by kernel_rfl) (by kernel_rfl) (fun _ _ _ h => h) (Or.inl ⟨by rfl, ?_⟩) hK0 ?_
            rotate_left
            · (intro wz hSz; have hxz := ((Keeps.b hSz).block _ (L.blk_lt HG.out)).trans HG.out; have hcz := L.blk_cell hxz 0; have hcz2 := L.blk_cell hxz 1; simp only [List.getElem?_toArray, List.getElem?_cons_zero, List.getElem?_cons_succ] at hcz hcz2; go_simp; try with_reducible rfl)
            simp only [Act.put, List.setIfInBounds_toArray, List.set_cons_zero, List.set_cons_succ]
            refine wpAnyH_ready (rs := [10]) (by kernel_rfl) (by simp) ?_
            refine AllReadyH.cons (o := { dst := some 35, op := Go.Op.call { callee := Go.Callee.value (Go.Operand.func 31), args := #[Go.Operand.tmp 33, Go.Operand.tmp 34], argTypes := #[37, 37] }, type := 4, pos := "ref.go:44", after := #[{ on := 8, ground := Go.Ground.data }, { on := 9, ground := Go.Ground.data }, { on := 4, ground := Go.Ground.chain }, { on := 4, ground := Go.Ground.guard }], guard := some (4, true) }) rfl (fun K hK => ?_) AllReadyH.nil
            go_simp
            with_reducible refine (HAH.out _).mono ?_
            rintro r wq1 ⟨rfl, hbq⟩
            go_wp2_with fail
            refine hK.out _ _ (Keeps.trans hK0 hbq) (fun hK1 => ?_)
            clear hK K hbq hK0
            refine wpAnyH_take (i := 11) (oi := { dst := some 36, op := Go.Op.pick (Go.Operand.tmp 29) (Go.Operand.tmp 35) (Go.Operand.const (Go.Value.bool false)), type := 4, pos := "ref.go:44", after := #[{ on := 4, ground := Go.Ground.data }, { on := 10, ground := Go.Ground.data }], guard := none }) (v := ?_) rfl (by kernel_rfl) (by kernel_rfl) (by kernel_rfl) (fun _ _ _ h => h) (Or.inl ⟨by rfl, ?_⟩) hK1 ?_
            rotate_left
            · (intro wz hSz; (try dsimp only at hSz); go_simp; try with_reducible rfl)
            simp only [Act.put, List.setIfInBounds_toArray, List.set_cons_zero, List.set_cons_succ]
            refine wpAnyH_done (by kernel_rfl) ?_ _
            obtain ⟨wq, hwq⟩ : ∃ W : World, W = wq1 := ⟨_, rfl⟩
            have hbq : Below wr.heap.size wr wq := by rw [hwq]; exact (Keeps.b hK1)
            try rw [← hwq]
            replace HG := Lib.hid ((hbq.block _ (L.blk_lt HG.out)).trans HG.out)
            replace HX := Lib.hid (HX.out.below hbq)
            replace HBR := Lib.hid (HBR.out.trans (hbq.mono HBR.out.size))
            clear hwq hbq
            have hcr := HX.out.r
            have HCZ := Lib.hid HX.out.z
            obtain ⟨tk, htke⟩ : ∃ t, t = o.take j := ⟨_, rfl⟩
            obtain ⟨dk, hdke⟩ : ∃ t, t = o.drop j := ⟨_, rfl⟩
            have htk : ∀ W, Sem.run Tryd.prog (Instr.sliceAt 32 (.slice (some ⟨rb, ro, none⟩) o.length c) none (some (.int .i64 (j : Int))) none) W = .ok (.slice (some ⟨rb, ro, none⟩) tk.length c) W := by
              intro W
              rw [htke, List.length_take, Nat.min_eq_left hj]
              exact take_isK hj hcr HCZ.out W
            have hdk : ∀ W, Sem.run Tryd.prog (Instr.sliceAt 32 (.slice (some ⟨rb, ro, none⟩) o.length c) (some (.int .i64 (j : Int))) none none) W = .ok (.slice (dropK (some ⟨rb, ro, none⟩) c j) dk.length (c - j)) W := by
              intro W
              rw [hdke, List.length_drop]
              exact drop_isK hj hcr HCZ.out W
            have HDZ : Hid (dropK (some ⟨rb, ro, none⟩) c j = none → c - j = 0) := Lib.hid (by
              intro h
              unfold dropK at h
              split at h
              · omega
              · have := HCZ.out (by first | (simp at h; done) | simpa using h)
                omega)
            have HE : Hid ((wq.alloc (.cells #[] 37)).ownsRow wq.heap.size 37 2 (.slice (some ⟨wq.heap.size, 0, none⟩) 0 0) ([] : List Kx).length (lkCells [])) := Lib.hid (World.ownsRow_made (size := 2) (e := 37) wq #[] 0 (Nat.le_refl _) (by unfold maxLen; omega) rfl)
            have HT : Hid (LksIn (wq.alloc (.cells #[] 37)) (some ⟨rb, ro, none⟩) tk) := Lib.hid (by rw [htke]; exact lks_take (HX.out.i.below (alloc1 wq (.cells #[] 37))) j)
            have hs0 : wq.heap.size ≤ (wq.alloc (.cells #[] 37)).heap.size := (alloc1 wq _).size
            have htl : tk.length ≤ 8 := by rw [htke, List.length_take]; omega
            have hdl : dk.length ≤ 8 := by rw [hdke, List.length_drop]; omega
            have HTK := Lib.hid htke
            have HDK := Lib.hid hdke
            clear htke hdke
            go_upto_region 10 with (at_builtin; refine wpList_append_lks (w := wq.alloc (.cells #[] 37)) rfl (.tmp 39) (.tmp 42) rfl wq.heap.size (.slice (some ⟨wq.heap.size, 0, none⟩) 0 0) [] tk rfl HE.out (some ⟨rb, ro, none⟩) c rfl HT.out HCZ.out (by simp; omega) hs0 ?_; intro v1 w1 ho1 hg1 hat1; rw [List.nil_append] at ho1; have HB1 : Hid (Below wq.heap.size wq w1) := Lib.hid ((alloc1 wq _).grown hg1 hs0 (fun q e => own_base HE.out q e)); have HO1 := Lib.hid ho1; clear ho1 hg1 hat1)
            have hg1 := (HB1.out.block _ (L.blk_lt HG.out)).trans HG.out
            have c0 := L.blk_cell hg1 0
            have c1 := L.blk_cell hg1 1
            simp only [List.getElem?_toArray, List.getElem?_cons_zero, List.getElem?_cons_succ] at c0 c1
            clear hg1
            have HO1' : Hid ((w1.alloc (.cells #[.int .i64 (k : Int), fV x.toNat] 37)).ownsRow wq.heap.size 37 2 v1 tk.length (lkCells tk)) := Lib.hid (own_below HO1.out (alloc1 _ _))
            have HF1 : Hid (LksIn (w1.alloc (.cells #[.int .i64 (k : Int), fV x.toNat] 37)) (some ⟨w1.heap.size, 0, none⟩) [((k : Int), x)]) := Lib.hid (lks_one w1 ((k : Int), x))
            have hs1 : wq.heap.size ≤ (w1.alloc (.cells #[.int .i64 (k : Int), fV x.toNat] 37)).heap.size := Nat.le_trans HB1.out.size (alloc1 w1 _).size
            go_upto_region 11 with (at_builtin; refine wpList_append_lks (w := w1.alloc (.cells #[.int .i64 (k : Int), fV x.toNat] 37)) rfl (.tmp 44) (.tmp 46) rfl wq.heap.size v1 tk [((k : Int), x)] rfl HO1'.out (some ⟨w1.heap.size, 0, none⟩) 1 rfl HF1.out (fun h => nomatch h) (by simp; omega) hs1 ?_; intro v2 w2 ho2 hg2 hat2; have HB2 : Hid (Below wq.heap.size wq w2) := Lib.hid ((HB1.out.trans ((alloc1 w1 _).mono HB1.out.size)).grown hg2 hs1 (fun q e => own_base HO1'.out q e)); have HO2 := Lib.hid ho2; clear ho2 hg2 hat2)
            have HF2 : Hid (LksIn w2 (dropK (some ⟨rb, ro, none⟩) c j) dk) := Lib.hid (by rw [HDK.out]; exact lks_drop (HX.out.below HB2.out) j)
            have hs2 := HB2.out.size
            clear c0 c1
            go_wp2_with (at_builtin; refine wpList_append_lks (w := w2) rfl (.tmp 48) (.tmp 51) rfl wq.heap.size v2 (tk ++ [((k : Int), x)]) dk rfl HO2.out (dropK (some ⟨rb, ro, none⟩) c j) (c - j) rfl HF2.out HDZ.out (by simp only [List.length_append, List.length_cons, List.length_nil]; omega) hs2 ?_; intro v3 w3 ho3 hg3 hat3; obtain ⟨A3, c3, rfl, HX3⟩ := lx_own ho3; have HB3 : Hid (Below wq.heap.size wq w3) := Lib.hid (HB2.out.grown hg3 hs2 (fun q e => own_base HO2.out q e)); have HX3' := Lib.hid HX3; clear ho3 hg3 hat3 HX3)
            go_roundg (ls.length - (k + 1))
            case rel => exact ⟨k + 1, ws ++ [x], tk ++ [((k : Int), x)] ++ dk, A3, c3, by omega, by go_num, by (congr 1; simp only [List.length_append, List.length_cons, List.length_nil]; omega), by omega, Lib.hid (by rw [List.length_append, HWL.out]; rfl), Lib.hid (HLW.out x HXW.out), Lib.hid (by rw [HTK.out, HDK.out]; exact HPUT.out j hj HLT.out HLE.out), HX3', Lib.hid (HBR.out.trans (HB3.out.mono HBR.out.size))⟩
            case measure => omega
        · have HLE : Hid (∀ h : j < o.length, lx o[j] ((k : Int), x) = false) := Lib.hid (fun h => absurd h hjl)
          have hjlz : ¬ (j : Int) < (o.length : Int) := by omega
          have hjd : decide ((j : Int) < (o.length : Int)) = false := decide_eq_false hjlz
          go_upto_region 7 with fail
          go_quiet (fail)
          obtain ⟨wq, hwq⟩ : ∃ W : World, W = wr.drewN nq := ⟨_, rfl⟩
          have hbq : Below wr.heap.size wr wq := by rw [hwq]; exact V.drawn_below _ nq
          try rw [← hwq]
          replace HG := Lib.hid ((hbq.block _ (L.blk_lt HG.out)).trans HG.out)
          replace HX := Lib.hid (HX.out.below hbq)
          replace HBR := Lib.hid (HBR.out.trans (hbq.mono HBR.out.size))
          clear hwq hbq
          have hcr := HX.out.r
          have HCZ := Lib.hid HX.out.z
          obtain ⟨tk, htke⟩ : ∃ t, t = o.take j := ⟨_, rfl⟩
          obtain ⟨dk, hdke⟩ : ∃ t, t = o.drop j := ⟨_, rfl⟩
          have htk : ∀ W, Sem.run Tryd.prog (Instr.sliceAt 32 (.slice D o.length c) none (some (.int .i64 (j : Int))) none) W = .ok (.slice D tk.length c) W := by
            intro W
            rw [htke, List.length_take, Nat.min_eq_left hj]
            exact take_isK hj hcr HCZ.out W
          have hdk : ∀ W, Sem.run Tryd.prog (Instr.sliceAt 32 (.slice D o.length c) (some (.int .i64 (j : Int))) none none) W = .ok (.slice (dropK D c j) dk.length (c - j)) W := by
            intro W
            rw [hdke, List.length_drop]
            exact drop_isK hj hcr HCZ.out W
          have HDZ : Hid (dropK D c j = none → c - j = 0) := Lib.hid (by
            intro h
            unfold dropK at h
            split at h
            · omega
            · have := HCZ.out (by first | (simp at h; done) | simpa using h)
              omega)
          have HE : Hid ((wq.alloc (.cells #[] 37)).ownsRow wq.heap.size 37 2 (.slice (some ⟨wq.heap.size, 0, none⟩) 0 0) ([] : List Kx).length (lkCells [])) := Lib.hid (World.ownsRow_made (size := 2) (e := 37) wq #[] 0 (Nat.le_refl _) (by unfold maxLen; omega) rfl)
          have HT : Hid (LksIn (wq.alloc (.cells #[] 37)) D tk) := Lib.hid (by rw [htke]; exact lks_take (HX.out.i.below (alloc1 wq (.cells #[] 37))) j)
          have hs0 : wq.heap.size ≤ (wq.alloc (.cells #[] 37)).heap.size := (alloc1 wq _).size
          have htl : tk.length ≤ 8 := by rw [htke, List.length_take]; omega
          have hdl : dk.length ≤ 8 := by rw [hdke, List.length_drop]; omega
          have HTK := Lib.hid htke
          have HDK := Lib.hid hdke
          clear htke hdke
          go_upto_region 10 with (at_builtin; refine wpList_append_lks (w := wq.alloc (.cells #[] 37)) rfl (.tmp 39) (.tmp 42) rfl wq.heap.size (.slice (some ⟨wq.heap.size, 0, none⟩) 0 0) [] tk rfl HE.out D c rfl HT.out HCZ.out (by simp; omega) hs0 ?_; intro v1 w1 ho1 hg1 hat1; rw [List.nil_append] at ho1; have HB1 : Hid (Below wq.heap.size wq w1) := Lib.hid ((alloc1 wq _).grown hg1 hs0 (fun q e => own_base HE.out q e)); have HO1 := Lib.hid ho1; clear ho1 hg1 hat1)
          have hg1 := (HB1.out.block _ (L.blk_lt HG.out)).trans HG.out
          have c0 := L.blk_cell hg1 0
          have c1 := L.blk_cell hg1 1
          simp only [List.getElem?_toArray, List.getElem?_cons_zero, List.getElem?_cons_succ] at c0 c1
          clear hg1
          have HO1' : Hid ((w1.alloc (.cells #[.int .i64 (k : Int), fV x.toNat] 37)).ownsRow wq.heap.size 37 2 v1 tk.length (lkCells tk)) := Lib.hid (own_below HO1.out (alloc1 _ _))
          have HF1 : Hid (LksIn (w1.alloc (.cells #[.int .i64 (k : Int), fV x.toNat] 37)) (some ⟨w1.heap.size, 0, none⟩) [((k : Int), x)]) := Lib.hid (lks_one w1 ((k : Int), x))
          have hs1 : wq.heap.size ≤ (w1.alloc (.cells #[.int .i64 (k : Int), fV x.toNat] 37)).heap.size := Nat.le_trans HB1.out.size (alloc1 w1 _).size
          go_upto_region 11 with (at_builtin; refine wpList_append_lks (w := w1.alloc (.cells #[.int .i64 (k : Int), fV x.toNat] 37)) rfl (.tmp 44) (.tmp 46) rfl wq.heap.size v1 tk [((k : Int), x)] rfl HO1'.out (some ⟨w1.heap.size, 0, none⟩) 1 rfl HF1.out (fun h => nomatch h) (by simp; omega) hs1 ?_; intro v2 w2 ho2 hg2 hat2; have HB2 : Hid (Below wq.heap.size wq w2) := Lib.hid ((HB1.out.trans ((alloc1 w1 _).mono HB1.out.size)).grown hg2 hs1 (fun q e => own_base HO1'.out q e)); have HO2 := Lib.hid ho2; clear ho2 hg2 hat2)
          have HF2 : Hid (LksIn w2 (dropK D c j) dk) := Lib.hid (by rw [HDK.out]; exact lks_drop (HX.out.below HB2.out) j)
          have hs2 := HB2.out.size
          clear c0 c1
          go_wp2_with (at_builtin; refine wpList_append_lks (w := w2) rfl (.tmp 48) (.tmp 51) rfl wq.heap.size v2 (tk ++ [((k : Int), x)]) dk rfl HO2.out (dropK D c j) (c - j) rfl HF2.out HDZ.out (by simp only [List.length_append, List.length_cons, List.length_nil]; omega) hs2 ?_; intro v3 w3 ho3 hg3 hat3; obtain ⟨A3, c3, rfl, HX3⟩ := lx_own ho3; have HB3 : Hid (Below wq.heap.size wq w3) := Lib.hid (HB2.out.grown hg3 hs2 (fun q e => own_base HO2.out q e)); have HX3' := Lib.hid HX3; clear ho3 hg3 hat3 HX3)
          go_roundg (ls.length - (k + 1))
          case rel => exact ⟨k + 1, ws ++ [x], tk ++ [((k : Int), x)] ++ dk, A3, c3, by omega, by go_num, by (congr 1; simp only [List.length_append, List.length_cons, List.length_nil]; omega), by omega, Lib.hid (by rw [List.length_append, HWL.out]; rfl), Lib.hid (HLW.out x HXW.out), Lib.hid (by rw [HTK.out, HDK.out]; exact HPUT.out j hj HLT.out HLE.out), HX3', Lib.hid (HBR.out.trans (HB3.out.mono HBR.out.size))⟩
          case measure => omega
    · have hkl : k = ls.length := by omega
      subst hkl
      go_wp2_with fail
      go_ret
      exact ⟨ws, o, D, c, by rw [← HWL.out, ← HRD.out.len]; rfl, HWL.out, HWS.out, HRD.out, HX.out.i, by rw [← HWL.out, ← HRD.out.len]; exact HX.out.r, HB0.out.trans (HBR.out.mono HB0.out.size)⟩
end Go.Proofs.YtfndiggpnkjacaaDoor.Rk

namespace Go.Proofs.YtfndiggpnkjacaaDoor.Fp
set_option linter.unusedVariables false
set_option linter.unusedSimpArgs false
open Ieee
attribute [local irreducible] fl LP

/-- A whole number is not above a float from 0 on just if it is not above what is whole of it. -/
theorem le_whole {n y : Nat} (hn : n < 2 ^ 53) (ny : isN y = false) (sy : ng y = false) : (vl (fl n) ≤ vl y) ↔ n ≤ wq y := by
  have h1 : vl (fl n) = (fl n : Int) := by
    unfold vl sg
    rw [fl_rg hn, fl_ng hn]; rfl
  have h2 : vl y = (rg y : Int) := by
    unfold vl sg
    rw [sy]; rfl
  rw [h1, h2, Int.ofNat_le]
  have h3 : fl n ≤ rg y ↔ U (fl n) ≤ U (rg y) := by
    constructor
    · exact U_le
    · intro h
      rcases Nat.lt_or_ge (rg y) (fl n) with g | g
      · have := U_lt g; omega
      · exact g
  rw [h3, U_fl hn]
  unfold wq
  exact (Nat.le_div_iff_mul_le (Nat.two_pow_pos LP)).symm
theorem pos_one {n : Nat} (h0 : 0 < n) (hn : n < 2 ^ 53) : 0 < vl (fl n) := by
  have h1 : vl (fl n) = (fl n : Int) := by
    unfold vl sg
    rw [fl_rg hn, fl_ng hn]; rfl
  rw [h1]
  have : U 0 < U (fl n) := by
    rw [U_zero, U_fl hn]
    exact Nat.mul_pos h0 (Nat.two_pow_pos LP)
  have := U_iff.1 this
  omega
theorem fl_isn {n : Nat} (hn : n < 2 ^ 53) : isN (fl n) = false := by
  have := fl_lt hn
  unfold isN
  rw [fl_rg hn]
  simp; omega
theorem mz_case {n : Nat} (hn : n < 1000) : vl (fl (n + 1)) ≤ vl 9223372036854775808 ↔ (n : Int) < ((wq (th 9223372036854775808) : Nat) : Int) := by
  have e1 : th 9223372036854775808 = 9223372036854775808 := by decide
  have e2 : wq 9223372036854775808 = 0 := by
    unfold wq
    rw [show rg 9223372036854775808 = 0 by decide, U_zero, Nat.zero_div]
  have hp := pos_one (n := n + 1) (by omega) (by omega)
  have hv : vl 9223372036854775808 = 0 := by decide
  rw [e1, e2, hv]
  clear e1 e2 hv
  generalize vl (fl (n + 1)) = z at hp
  constructor <;> intro h <;> omega
/-- A thousand times any number, and how many thousandths that are. -/
theorem mul_any {x : Nat} (hx : x < 2 ^ 64) (nx : isN x = false) (h1 : ¬ vl ONE ≤ vl x) : ∃ y, D.mul THOU x = some y ∧ isN y = false ∧ (∀ n : Nat, n < 1000 → (vl (fl (n + 1)) ≤ vl y ↔ ((n : Int) < ml x))) := by
  have v1 : vl ONE = (ONE : Int) := by decide
  by_cases hi : rg x = INF
  · have sx : ng x = true := by
      rw [v1] at h1
      unfold vl sg at h1
      rw [hi] at h1
      generalize ng x = s at h1
      cases s
      · exact absurd (by decide) h1
      · rfl
    have ex : x = 18442240474082181120 := by
      rw [← wd_eta hx, sx, hi]; decide
    subst ex
    refine ⟨_, mul_thou_inf, by decide, fun n hn => ?_⟩
    have hp := pos_one (n := n + 1) (by omega) (by omega)
    have hv : vl 18442240474082181120 < 0 := by decide
    have hm : ml 18442240474082181120 = 0 := by
      unfold ml
      rw [if_neg (by decide), if_pos (by decide)]
    rw [hm]
    constructor <;> intro h <;> omega
  · have ri : rg x < INF := by
      have : rg x ≤ INF := by simpa [isN] using nx
      omega
    refine ⟨th x, mul_thou ri, ?_, fun n hn => ?_⟩
    · have h3 := INF_lt
      unfold th
      rw [isN_wd (by omega)]
      simp; omega
    · by_cases hs : vl x < 0
      · have sx : ng x = true := by
          unfold vl sg at hs
          generalize ng x = s at hs
          cases s
          · simp at hs; omega
          · rfl
        have hm : ml x = 0 := by
          unfold ml
          rw [nx, if_neg (by decide), if_pos hs]
        have hy : vl (th x) ≤ 0 := by
          unfold vl th sg
          have h3 := INF_lt
          rw [ng_wd (by omega), sx, if_pos rfl]
          omega
        have hp := pos_one (n := n + 1) (by omega) (by omega)
        rw [hm]
        constructor <;> intro h <;> omega
      · have ro : rg x ≤ ONE := by
          rw [v1] at h1
          unfold vl sg at h1 hs
          generalize ng x = s at h1 hs
          cases s <;> simp at h1 hs <;> omega
        have hm : ml x = wq (th x) := by
          unfold ml
          rw [nx, if_neg (by decide), if_neg hs, if_neg h1]
        have nt : isN (th x) = false := by
          have := th_lt ro
          have := fl_lt (n := 1000) (by decide)
          unfold isN
          rw [rg_th ro]
          simp; omega
        rw [hm]
        cases sx : ng x
        · have st : ng (th x) = false := by rw [ng_th ro, sx]
          rw [le_whole (by omega) nt st]
          omega
        · have vx : vl x = 0 := by
            unfold vl sg at hs ⊢
            rw [sx] at hs ⊢
            simp at hs ⊢; omega
          rcases zero_of hx vx with rfl | rfl
          · cases sx
          · exact mz_case hn
end Go.Proofs.YtfndiggpnkjacaaDoor.Fp

namespace Go.Proofs.YtfndiggpnkjacaaDoor.Fp
set_option linter.unusedVariables false
set_option linter.unusedSimpArgs false
open Go.RowKit Go.Sort Go.Shelf
open T
open I (alloc1)
attribute [local irreducible] fl LP
set_option maxHeartbeats 2000000 in
set_option maxRecDepth 100000 in
theorem rmille_any (x : Nat) (hx : x < 2 ^ 64) (w : World) : Calls Tryd.prog 39 #[fV x] w fun e w' => e = .returned (.int .i64 (ml x)) ∧ w' = w := by
  have z1 : isN 4607182418800017408 = false := by decide
  have v1 : vl 4607182418800017408 = 4607182418800017408 := by decide
  cases nx : isN x
  · by_cases h2 : vl ONE ≤ vl x
    · have e : ml x = 1000 := by
        have v1' : vl ONE = 4607182418800017408 := v1
        unfold ml
        rw [nx, if_neg (by decide), if_neg (by omega), if_pos h2]
      rw [e]
      have h2' : 4607182418800017408 ≤ vl x := by rw [← v1]; exact h2
      clear h2 e
      by_cases h3 : vl x = 4607182418800017408
      · have h3' : (decide (vl x = 4607182418800017408)) = true := by simp [h3]
        have h4 : ¬ (4607182418800017408 < vl x) := by omega
        have HE := Lib.hid h3
        go_enter Tryd.func39, Tryd.ntmps39
        go_wp2_with fail
        go_ret
        exact ⟨rfl, rfl⟩
      · have h4 : 4607182418800017408 < vl x := by omega
        go_enter Tryd.func39, Tryd.ntmps39
        go_wp2_with fail
        go_ret
        exact ⟨rfl, rfl⟩
    · obtain ⟨y, hy, ny, hle⟩ := mul_any hx nx h2
      have hq := run_mul 4652007308841189376 x y hy
      have HLE := Lib.hid hle
      have h2' : ¬ 4607182418800017408 ≤ vl x := by rw [← v1]; exact h2
      have hml : 0 ≤ ml x ∧ ml x ≤ 1000 := by
        refine ⟨?_, (ml_le x).2⟩
        unfold ml
        rw [nx, if_neg (by decide)]
        split
        · omega
        · omega
      have h3 : ¬ (vl x = 4607182418800017408) := by omega
      have h4 : ¬ (4607182418800017408 < vl x) := by omega
      obtain ⟨m, hm⟩ : ∃ m : Nat, ml x = m := ⟨(ml x).toNat, by omega⟩
      rw [hm] at hle hml ⊢
      have HM := Lib.hid hle
      clear hle hm h2 HLE hy
      go_enter Tryd.func39, Tryd.ntmps39
      go_wp2_with fail
      go_loopg [4] m (fun q nv wr => ∃ k : Nat, nv = .int .i64 k ∧ k ≤ m ∧ m - k ≤ q ∧ wr = w)
      case atStart => exact ⟨0, rfl, Nat.zero_le _, by omega, rfl⟩
      case round =>
        obtain ⟨k, rfl, hk, hq2, rfl⟩ := hrel
        by_cases h5 : k < 1000
        · have i1 : floatOfInt .f64 ((k : Int) + 1) = fl (k + 1) := f_int (n := k + 1) (by omega)
          have ni : isN (fl (k + 1)) = false := fl_isn (by omega)
          have h5' : (k : Int) < 1000 := by omega
          have hc := HM.out k h5
          by_cases h6 : k < m
          · have h7 : vl (fl (k + 1)) ≤ vl y := hc.2 (by omega)
            by_cases h8 : vl (fl (k + 1)) = vl y
            · have h9 : decide (vl (fl (k + 1)) = vl y) = true := by simp [h8]
              have h10 : decide (vl (fl (k + 1)) < vl y) = false := by simp [h8]
              clear h8 h7 hc
              go_wp2_with fail
              go_roundg (m - (k + 1))
              case rel => exact ⟨k + 1, by go_num, by omega, by omega, rfl⟩
              case measure => omega
            · have h9 : vl (fl (k + 1)) < vl y := Int.lt_iff_le_and_ne.2 ⟨h7, h8⟩
              obtain ⟨z, hz⟩ : ∃ z, z = fl (k + 1) := ⟨_, rfl⟩
              rw [← hz] at h8 h9 ni i1
              clear h7 hc hz
              go_wp2_with fail
              go_roundg (m - (k + 1))
              case rel => exact ⟨k + 1, by go_num, by omega, by omega, rfl⟩
              case measure => omega
          · have h7 : ¬ vl (fl (k + 1)) ≤ vl y := fun h => by have := hc.1 h; omega
            have h8 : ¬ vl (fl (k + 1)) = vl y := fun h => h7 (Int.le_of_eq h)
            have h9 : ¬ vl (fl (k + 1)) < vl y := fun h => h7 (Int.le_of_lt h)
            obtain rfl : k = m := by omega
            clear h7 hc
            go_wp2_with fail
            go_ret
            exact ⟨rfl, rfl⟩
        · obtain rfl : k = m := by omega
          have h5' : ¬ (k : Int) < 1000 := by omega
          go_wp2_with fail
          go_ret
          exact ⟨rfl, rfl⟩
  · have e : ml x = -1 := by
      unfold ml
      rw [nx, if_pos rfl]
    rw [e]
    clear e
    go_enter Tryd.func39, Tryd.ntmps39
    go_wp2_with fail
    go_ret
    exact ⟨rfl, rfl⟩
end Go.Proofs.YtfndiggpnkjacaaDoor.Fp
