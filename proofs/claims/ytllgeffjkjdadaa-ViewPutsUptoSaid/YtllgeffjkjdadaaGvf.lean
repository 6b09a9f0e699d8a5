/-
  The contracts of package view's functions, in the laws' forms.
  What must be whatever is asked (layer 5), walked over what the code's functions come to.
-/
import Derived.Test.YtllgeffjkjdadaaGve
import Derived.Test.YtllgeffjkjdadaaGva
import Derived.Test.YtllgeffjkjdadaaGvd
import Derived.Deep.DeepCutAuto
namespace Go.Proofs.Ytllgeffjkjdadaa.V
set_option linter.unusedVariables false
set_option linter.unusedSimpArgs false
open Go.RowKit
open T
open I (It Lb ItemsIn ItemsAt ItemsOk itCells itCells_snoc itCells_at items_cells items_own own_at own_below infoItem alloc1)

theorem bl_all (l : List It) (o : Lb) (hok : ItemsOk l) (ho : o.2 < 18446744073709551616) : Hid (∀ x ∈ l, BlC x.lv o.1 x.ct o.2 (sees o x)) :=
  Lib.hid fun x hx w => L.below_any x.lv o.1 x.ct o.2 w (hok.ct x hx) ho
theorem vo_is (A : Option Addr) (cap : Nat) (l : List It) (o : Lb) (h : List UInt8) (hok : ItemsOk l) (ho : o.2 < 18446744073709551616) (hn : l.length * 56 ≤ 140737488355328) : VoC 6 A l.length cap o.1 o.2 ⟨h.toArray⟩ l (lns h (cut o l)) (atI o l) := fun W h1 =>
  callsIn_wide.1 (of_in 6 (Nat.le_refl _) A cap l o.1 o.2 h W h1 hok.len (bl_all l o hok ho) hn)
theorem cu_is (A : Option Addr) (cap : Nat) (l : List It) (o : Lb) (hok : ItemsOk l) (ho : o.2 < 18446744073709551616) (hn : l.length * 56 ≤ 140737488355328) : CuC 23 A l.length cap o.1 o.2 l (cut o l) := fun W h1 =>
  (callsIn_wide.1 (cut_in 6 (Nat.le_refl _) A cap l o.1 o.2 W h1 hok.len (bl_all l o hok ho) hn)).mono fun e w' ⟨v, he, ho', hb⟩ => by
    obtain ⟨A', cap', rfl, -, -⟩ := own_form ho'
    exact ⟨A', cap', he, items_own ho', hb⟩

set_option maxRecDepth 100000 in
set_option maxHeartbeats 1000000 in
theorem tx_is (ls : List (List UInt8 × Bool)) (hb : P.bulk ls ≤ 70368744177664) : TxC 20 ls (P.join ls) := fun W LA TA lc tn tc h1 => by
  obtain ⟨W1, hW1⟩ : ∃ W1 : World, W1 = W.alloc (.cells #[.slice LA ls.length lc, .slice TA tn tc] 29) := ⟨_, rfl⟩
  have HB := Lib.hid (show Below W.heap.size W W1 by rw [hW1]; exact alloc1 _ _)
  obtain ⟨x0, x1⟩ := view_cells (w := W1) (g := W.heap.size) (show W1.heap[W.heap.size]? = some (.cells #[.slice LA ls.length lc, .slice TA tn tc] 29 (0, 0)) by rw [hW1]; exact heap_alloc_new W _)
  have HJ := Lib.hid (join_in LA lc ls W1 hb (h1.below HB.out))
  rw [hW1] at x0 x1
  go_enter Try.func20, Try.ntmps20
  go_wp2_with fail
  rw [← hW1]
  clear hW1 x0 x1
  with_reducible refine (HJ.out).mono ?_
  rintro e w1 ⟨A', cap', rfl, -, hI, hb1⟩
  go_wp2_with fail
  go_ret
  exact ⟨A', cap', rfl, hI, HB.out.trans (hb1.mono HB.out.size)⟩

theorem fnd_idx (n : Int) : ∀ (ts : List Int) (k : Nat), Lib.idxFrom ts n k = match fnd n k ts with | some i => (i : Int) | none => -1
  | [], _ => rfl
  | x :: r, k => by
    rw [Lib.idxFrom, fnd]
    by_cases h : x = n
    · rw [if_pos h, if_pos h]
    · rw [if_neg h, if_neg h, fnd_idx n r (k + 1)]
theorem index_any (A : Option Addr) (cap : Nat) (ts : List Int) (n : Int) (w : World) (hl : ts.length ≤ maxLen) (hT : IntsIn w A ts) :
    Calls Try.prog 33 #[.slice A ts.length cap, .int .i64 n] w fun e w' => e = .returned (.int .i64 (match fnd n 0 ts with | some i => (i : Int) | none => -1)) ∧ w' = w := by
  rw [← fnd_idx]
  unfold maxLen at hl
  by_cases hp : 0 < ts.length
  · obtain ⟨b, off, rfl, -, hat⟩ := hT hp
    have := Try.slices_Index_int b off ts.length cap ts n w (Nat.le_refl _) (by omega) (fun j hj => by rw [hat j hj, List.getD_eq_getElem?_getD, List.getElem?_eq_getElem hj]; rfl)
    rw [List.take_length] at this
    exact this
  · obtain rfl : ts = [] := List.length_eq_zero_iff.1 (by omega)
    exact Try.slices_Index_int_empty A cap n w

set_option maxRecDepth 100000 in
set_option maxHeartbeats 1000000 in
theorem fd_is (ts : List Int) (n : Int) (hl : ts.length ≤ maxLen) : FdC 19 ts n (fndK (fnd n 0 ts)) (fnd n 0 ts).isSome := fun W LA TA ln lc tc h1 => by
  obtain ⟨W1, hW1⟩ : ∃ W1 : World, W1 = W.alloc (.cells #[.slice LA ln lc, .slice TA ts.length tc] 29) := ⟨_, rfl⟩
  have HB := Lib.hid (show Below W.heap.size W W1 by rw [hW1]; exact alloc1 _ _)
  obtain ⟨x0, x1⟩ := view_cells (w := W1) (g := W.heap.size) (show W1.heap[W.heap.size]? = some (.cells #[.slice LA ln lc, .slice TA ts.length tc] 29 (0, 0)) by rw [hW1]; exact heap_alloc_new W _)
  have HJ := Lib.hid (index_any TA tc ts n W1 hl (h1.below HB.out))
  rw [hW1] at x0 x1
  generalize hf : fnd n 0 ts = o at *
  cases o with
  | none =>
    go_enter Try.func19, Try.ntmps19
    go_wp2_with fail
    rw [← hW1]
    clear hW1 x0 x1
    with_reducible refine (HJ.out).mono ?_
    rintro e w1 ⟨rfl, rfl⟩
    simp only
    go_wp2_with fail
    go_ret2
    exact ⟨rfl, HB.out⟩
  | some i =>
    have hi0 : ¬ ((i : Int) < 0) := by omega
    go_enter Try.func19, Try.ntmps19
    go_wp2_with fail
    rw [← hW1]
    clear hW1 x0 x1
    with_reducible refine (HJ.out).mono ?_
    rintro e w1 ⟨rfl, rfl⟩
    simp only
    go_wp2_with fail
    go_ret2
    exact ⟨rfl, HB.out⟩

set_option maxRecDepth 100000 in
set_option maxHeartbeats 1000000 in
theorem af_is (ts : List Int) (n : Int) (hl : ts.length ≤ maxLen) (hn0 : -9223372036854775808 ≤ n) (hn1 : n ≤ 9223372036854775807) : AfC 7 ts n (aftK ts n) (aftE ts n) := fun W LA TA ln lc tc h1 => by
  obtain ⟨W1, hW1⟩ : ∃ W1 : World, W1 = W.alloc (.cells #[.slice LA ln lc, .slice TA ts.length tc] 29) := ⟨_, rfl⟩
  have HB := Lib.hid (show Below W.heap.size W W1 by rw [hW1]; exact alloc1 _ _)
  obtain ⟨x0, x1⟩ := view_cells (w := W1) (g := W.heap.size) (show W1.heap[W.heap.size]? = some (.cells #[.slice LA ln lc, .slice TA ts.length tc] 29 (0, 0)) by rw [hW1]; exact heap_alloc_new W _)
  have HT := Lib.hid (h1.below HB.out)
  clear h1
  unfold maxLen at hl
  rw [hW1] at x0 x1
  by_cases c1 : n < 0
  · have e1 : aftK ts n = 0 := by simp [aftK, aftNo, c1]
    have e2 : aftE ts n = 2 := by simp [aftE, aftNo, c1]
    rw [e1, e2]
    go_enter Try.func7, Try.ntmps7
    go_wp2_with fail
    go_ret2
    exact ⟨rfl, by rw [← hW1]; exact HB.out⟩
  · by_cases c2 : (ts.length : Int) < n
    · have e1 : aftK ts n = 0 := by simp [aftK, aftNo, c2]
      have e2 : aftE ts n = 2 := by simp [aftE, aftNo, c2]
      rw [e1, e2]
      go_enter Try.func7, Try.ntmps7
      go_wp2_with fail
      go_ret2
      exact ⟨rfl, by rw [← hW1]; exact HB.out⟩
    · by_cases c3 : n = 0
      · subst c3
        have e1 : aftK ts 0 = 0 := by simp [aftK]
        have e2 : aftE ts 0 = 0 := by
          have : ¬ ((ts.length : Int) < 0) := by omega
          simp [aftE, aftNo]
        rw [e1, e2]
        go_enter Try.func7, Try.ntmps7
        go_wp2_with fail
        go_ret2
        exact ⟨rfl, by rw [← hW1]; exact HB.out⟩
      · obtain ⟨i, hi⟩ : ∃ i : Nat, n = (i : Int) + 1 := ⟨(n - 1).toNat, by omega⟩
        have hil : i < ts.length := by omega
        obtain ⟨bk, off, hA, hlt, hat⟩ := HT.out (by omega)
        have c5 := hat i hil
        have hg : ts.getD (n - 1).toNat 0 = ts[i] := by rw [show (n - 1).toNat = i by omega, List.getD_eq_getElem?_getD, List.getElem?_eq_getElem hil]; rfl
        have hp : 0 < n := by omega
        rw [hW1] at c5
        generalize hx : ts[i] = x at *
        have hno : aftNo ts n = (decide (x < 0) || decide (1073741824 ≤ x)) := by unfold aftNo; rw [hg, decide_eq_false c1, decide_eq_false c2, decide_eq_true hp]; rfl
        have hw1 : IntKind.i64.wrap (n - 1) = (i : Int) := by rw [IntKind.wrap_i64]; omega
        have k1 : (i : Int) < (ts.length : Int) := by omega
        have k0 : (0 : Int) ≤ (i : Int) := by omega
        have KK : Hid (aftK ts n = if aftNo ts n = true then 0 else x + 1) := Lib.hid (by unfold aftK; rw [if_pos hp, hg])
        have KE : Hid (aftE ts n = if aftNo ts n = true then 2 else 0) := Lib.hid rfl
        have HNO := Lib.hid hno
        clear hi hx hg hat hp hno hn0 hn1 hlt
        subst hA
        by_cases c6 : x < 0
        · have e0 : aftNo ts n = true := by rw [HNO.out, decide_eq_true c6]; rfl
          rw [KK.out, KE.out, if_pos e0, if_pos e0]
          clear e0 KK KE HNO
          go_enter Try.func7, Try.ntmps7
          go_wp2_with fail
          go_ret2
          exact ⟨rfl, by rw [← hW1]; exact HB.out⟩
        · by_cases c7 : 1073741823 < x
          · have e0 : aftNo ts n = true := by rw [HNO.out, decide_eq_true (show 1073741824 ≤ x by omega), Bool.or_true]
            rw [KK.out, KE.out, if_pos e0, if_pos e0]
            clear e0 KK KE HNO
            go_enter Try.func7, Try.ntmps7
            go_wp2_with fail
            go_ret2
            exact ⟨rfl, by rw [← hW1]; exact HB.out⟩
          · have e0 : ¬ aftNo ts n = true := by rw [HNO.out, decide_eq_false c6, decide_eq_false (show ¬ 1073741824 ≤ x by omega)]; decide
            have hw2 : IntKind.i64.wrap (x + 1) = x + 1 := by rw [IntKind.wrap_i64]; omega
            rw [KK.out, KE.out, if_neg e0, if_neg e0]
            clear e0 KK KE HNO
            go_enter Try.func7, Try.ntmps7
            go_wp2_with fail
            go_ret2
            exact ⟨rfl, by rw [← hW1]; exact HB.out⟩

set_option maxRecDepth 100000 in
set_option maxHeartbeats 1000000 in
theorem id_any (A : Option Addr) (cap : Nat) (l : List It) (a : Int) (w : World) (hA : ItemsIn w A l) (hl : l.length ≤ maxLen) :
    Calls Try.prog 35 #[.slice A l.length cap, .int .i64 a] w fun e w' => e = .returned (.int .i64 (idAt l a)) ∧ w' = w := by
  unfold maxLen at hl
  by_cases c1 : a < 0
  · have e1 : idAt l a = 0 := by unfold idAt; rw [if_neg (by omega)]
    rw [e1]
    go_enter Try.func35, Try.ntmps35
    go_wp2_with fail
    go_ret
    exact ⟨rfl, rfl⟩
  · by_cases c2 : (l.length : Int) ≤ a
    · have e1 : idAt l a = 0 := by unfold idAt; rw [if_pos (by omega), List.getElem?_eq_none (by omega)]; rfl
      rw [e1]
      go_enter Try.func35, Try.ntmps35
      go_wp2_with fail
      go_ret
      exact ⟨rfl, rfl⟩
    · obtain ⟨i, rfl⟩ : ∃ i : Nat, a = (i : Int) := ⟨a.toNat, by omega⟩
      have hil : i < l.length := by omega
      obtain ⟨bk, off, rfl, -, hat⟩ := hA (by omega)
      obtain ⟨c0, -⟩ := hat i hil
      have e1 : idAt l (i : Int) = l[i].id := by unfold idAt; rw [if_pos (by omega), Int.toNat_natCast, List.getElem?_eq_getElem hil]; rfl
      rw [e1]
      have k1 : (i : Int) < (l.length : Int) := by omega
      have k0 : (0 : Int) ≤ (i : Int) := by omega
      generalize l[i].id = x at *
      clear hat e1
      go_enter Try.func35, Try.ntmps35
      go_wp2_with fail
      go_ret
      exact ⟨rfl, rfl⟩

set_option maxRecDepth 100000 in
set_option maxHeartbeats 2000000 in
theorem vids_any (A : Option Addr) (cap : Nat) (l : List It) (LA : Option Addr) (ln lcap : Nat) (TA : Option Addr) (tcap : Nat) (t : List Int) (w : World) (hA : ItemsIn w A l) (hl : l.length ≤ maxLen) (hT : IntsIn w TA t) (hn : t.length * 8 ≤ 140737488355328) :
    Calls Try.prog 22 #[.slice A l.length cap, .agg #[.slice LA ln lcap, .slice TA t.length tcap]] w fun e w' => (∃ v, e = .returned v ∧ w'.ownsRow w.heap.size 3 1 v (ids l t).length (numCells (ids l t))) ∧ Below w.heap.size w w' := by
  obtain ⟨i0, hi0, hz0, hz1, hz2⟩ := info_parts L.infoInt
  have HLL := Lib.hid hl
  unfold maxLen at hl
  obtain ⟨W0, hW0⟩ : ∃ W : World, W = w.alloc (.cells #[.slice LA ln lcap, .slice TA t.length tcap] 29) := ⟨_, rfl⟩
  have HS0 := Lib.hid (show W0.heap.size = w.heap.size + 1 by rw [hW0]; simp)
  have HB0 := Lib.hid (show Below w.heap.size w W0 by rw [hW0]; exact alloc1 _ _)
  obtain ⟨x0, x1⟩ := view_cells (w := W0) (g := w.heap.size) (show W0.heap[w.heap.size]? = some (.cells #[.slice LA ln lcap, .slice TA t.length tcap] 29 (0, 0)) by rw [hW0]; exact heap_alloc_new w _)
  rw [hW0] at x0 x1
  have HA := Lib.hid (hA.below HB0.out)
  have HT := Lib.hid (hT.below HB0.out)
  clear hA hT
  go_enter Try.func22, Try.ntmps22
  go_wp2_with fail
  rw [← hW0]
  clear hW0 x0 x1
  go_loopg [5, 11] t.length (fun m v i wr => ∃ (k : Nat) (ys : List Int), k ≤ t.length ∧ i = .int .i64 k ∧ t.length - k ≤ m ∧ wr.ownsRow W0.heap.size 3 1 v ys.length (numCells ys) ∧ Below W0.heap.size W0 wr ∧ ys.length = k ∧ Hid (ys = ids l (t.take k)))
  case atStart => exact ⟨0, [], Nat.zero_le _, rfl, by omega, World.ownsRow_nil _ _ _ _, Below.refl _ _, rfl, Lib.hid (by simp [ids])⟩
  case round =>
    obtain ⟨k, ys, hk, rfl, hm, hown, hbr, hyl, HY⟩ := hrel
    by_cases hlt : k < t.length
    · obtain ⟨bt, ot, hTe, hbt, hI⟩ := HT.out (by omega)
      subst hTe
      have ct := (hI.below hbr hbt) k hlt
      have HN := Lib.hid (ids_take (l := l) hlt)
      rw [← HY.out] at HN
      have h0k : (0 : Int) ≤ (k : Int) := by omega
      have hki : (k : Int) < (t.length : Int) := by omega
      have HOW := Lib.hid hown
      have HBR := Lib.hid hbr
      clear hI hown hbr HY
      obtain ⟨a, ha⟩ : ∃ a, a = t[k] := ⟨_, rfl⟩
      rw [← ha] at ct HN
      clear ha
      have HID := Lib.hid (id_any A cap l a wr (HA.out.below HBR.out) HLL.out)
      obtain ⟨d, hd⟩ : ∃ d, d = idAt l a := ⟨_, rfl⟩
      rw [← hd] at HID HN
      clear hd
      have hbs := HBR.out.size
      have HB2 := Lib.hid (HBR.out.trans ((alloc1 wr (.cells #[.int .i64 d] 3)).mono hbs))
      go_wp2_with fail
      with_reducible refine (HID.out).mono ?_
      rintro e w1 ⟨rfl, rfl⟩
      go_wp2_with (at_builtin; refine wpList_append_own _ rfl (.tmp 15) (.tmp 19) 27 rfl W0.heap.size 3 i0 _ 1 8 Try.underlying27 hi0 hz0 hz1 hz2 rfl (by decide) _ ys.length (numCells ys) rfl ?ho ⟨w1.heap.size, 0, none⟩ 1 1 [.int .i64 d] rfl rfl ?c1 ?c2 ?c3 ?c4 ?c5 ?_)
      case ho => exact HOW.out.alloc _
      case c1 => exact cell_one_new _ _ _
      case c2 => intro u hu; simp at hu; rcases hu with rfl; rfl
      case c3 => simp only [maxLen]; omega
      case c4 => omega
      case c5 => first | omega | (simp; omega)
      intro v' w4 hown4 hg4 _
      have hbel4 : Below W0.heap.size W0 w4 := HB2.out.grown hg4 (by simp; omega) (own_base HOW.out)
      rw [← numCells_snoc] at hown4
      have hl4 : (ys ++ [d]).length = k + 1 := by simp [hyl]
      rw [← hl4] at hown4
      clear hg4
      go_wp2_with fail
      go_roundg (t.length - (k + 1))
      case rel => exact ⟨k + 1, ys ++ [d], by omega, by go_num, Nat.le_refl _, hown4, hbel4, hl4, Lib.hid HN.out.symm⟩
      case measure => omega
    · obtain rfl : k = t.length := by omega
      have HO := Lib.hid (show wr.ownsRow w.heap.size 3 1 _ (ids l t).length (numCells (ids l t)) from by
        have hy := HY.out
        rw [List.take_length] at hy
        rw [← hy]
        exact own_more hown (by have := HS0.out; omega))
      have HB := Lib.hid (HB0.out.trans (hbr.mono (by have := HS0.out; omega)))
      go_wp2_with fail
      go_ret
      exact ⟨⟨_, rfl, HO.out⟩, HB.out⟩
theorem vi_is (A : Option Addr) (cap : Nat) (l : List It) (ts : List Int) (hl : l.length ≤ maxLen) (hn : ts.length * 8 ≤ 140737488355328) : IdC 22 A l.length cap l ts (ids l ts) := fun W LA TA ln lc tc h1 h2 =>
  (vids_any A cap l LA ln lc TA tc ts W h1 hl h2 hn).mono fun e w' ⟨⟨v, he, ho⟩, hb⟩ => by
    obtain ⟨A', cap', rfl, -, -⟩ := own_form ho
    exact ⟨A', cap', he, ints_own ho, hb⟩
end Go.Proofs.Ytllgeffjkjdadaa.V

namespace Go.Proofs.Ytllgeffjkjdadaa.V
set_option linter.unusedVariables false
set_option linter.unusedSimpArgs false
open Go.RowKit
open T
open I (It Lb ItemsIn ItemsAt ItemsOk itCells itCells_snoc itCells_at items_cells items_own own_at own_below infoItem alloc1)

def lvIts : List It := [⟨4, 0, 0, false, [97], false⟩, ⟨5, 1, 0, false, [98], false⟩, ⟨6, 0, 0, true, [], false⟩]
def lvLns : List (List UInt8 × Bool) := [([97], false), ([46, 46, 46], false)]
def lvCut : List It := [⟨4, 0, 0, false, [97], false⟩, ⟨6, 0, 0, true, [], false⟩]
theorem lvLns_is : lns [46, 46, 46] (cut (0, 0) lvIts) = lvLns := by decide
theorem lvCut_is : cut (0, 0) lvIts = lvCut := by decide
theorem lvAts_is : atI (0, 0) lvIts = [0, 2] := by decide
def lvIC : Array Value := #[.int .i64 4, .int .i64 0, .int .u64 0, .bool false, .string ⟨#[97]⟩, .bool false, .int .i64 5, .int .i64 1, .int .u64 0, .bool false, .string ⟨#[98]⟩, .bool false, .int .i64 6, .int .i64 0, .int .u64 0, .bool true, .string ⟨#[]⟩, .bool false]
theorem its_of_block {w : World} {g : Nat} {cs : Array Value} {xs : List It} (h : w.heap[g]? = some (.cells cs 37 (0, 0))) (hc : cs.toList = itCells xs) : ItemsIn w (some ⟨g, 0, none⟩) xs := fun hp => by
  refine ⟨g, 0, rfl, L.blk_lt h, fun j hj => ?_⟩
  obtain ⟨h0, h1, h2, h3, h4, h5⟩ := itCells_at xs j hj
  rw [← hc] at h0 h1 h2 h3 h4 h5
  have k : ∀ i u, cs.toList[i]? = some u → w.cell? ⟨g, i, none⟩ = some u := fun i u hu => by rw [L.blk_cell h]; simpa using hu
  rw [Nat.zero_add]
  exact ⟨k _ _ h0, k _ _ h1, k _ _ h2, k _ _ h3, k _ _ h4, k _ _ h5⟩

theorem VoC.at0 {fn : FuncId} {A : Option Addr} {n cap : Nat} {hx : ByteArray} {l : List It} {ls : List (List UInt8 × Bool)} {ts : List Int} (h : VoC fn A n cap 0 0 hx l ls ts) (W : World) (h1 : ItemsIn W A l) :
    Calls Try.prog fn #[.slice A n cap, .agg #[.int .i64 0, .int .u64 0], .string hx] W (VoEnd W ls ts) := h W h1
theorem CuC.at0 {fn : FuncId} {A : Option Addr} {n cap : Nat} {l c : List It} (h : CuC fn A n cap 0 0 l c) (W : World) (h1 : ItemsIn W A l) : Calls Try.prog fn #[.slice A n cap, .agg #[.int .i64 0, .int .u64 0]] W (IsEnd W c) := h W h1
theorem ints_of_block {w : World} {g : Nat} {cs : Array Value} {xs : List Int} (h : w.heap[g]? = some (.cells cs 3 (0, 0))) (hc : cs.toList = numCells xs) : IntsIn w (some ⟨g, 0, none⟩) xs := fun hp => by
  refine ⟨g, 0, rfl, L.blk_lt h, fun j hj => ?_⟩
  rw [L.blk_cell h, Nat.zero_add]
  have : cs.toList[j]? = some (.int .i64 xs[j]) := by rw [hc]; simp [numCells, List.getElem?_eq_getElem hj]
  simpa using this
def I2C (fn : FuncId) (ds : List Int) (n : Nat) : Prop := ∀ (W : World) (A B : Option Addr) (c c' : Nat), IntsIn W A ds → IntsIn W B ds → Calls Try.prog fn #[.slice A ds.length c, .slice B n c'] W fun e w' => e = .returned (.bool true) ∧ Below W.heap.size W w'
theorem I2C.at {fn : FuncId} {ds : List Int} {n : Nat} (h : I2C fn ds n) (W : World) {A B : Option Addr} {c c' : Nat} (h1 : IntsIn W A ds) (h2 : IntsIn W B ds) : Calls Try.prog fn #[.slice A ds.length c, .slice B n c'] W fun e w' => e = .returned (.bool true) ∧ Below W.heap.size W w' := h W A B c c' h1 h2
set_option maxRecDepth 100000 in
set_option maxHeartbeats 4000000 in
theorem live5_walk {ls : List (List UInt8 × Bool)} {ts ds : List Int} {c : List It} {b : List UInt8} (VC : Hid (∀ (A : Option Addr) (cap : Nat), VoC 6 A 3 cap 0 0 ⟨#[46, 46, 46]⟩ lvIts ls ts)) (AF : Hid (AfC 7 ts 2 3 0)) (FD : Hid (FdC 19 ts 2 1 true)) (TX : Hid (TxC 20 ls b)) (HBT : Hid (b = [97, 10, 46, 46, 46, 10]))
    (ID : Hid (∀ (A : Option Addr) (cap : Nat), IdC 22 A 3 cap lvIts ts ds)) (HDS : Hid (ds = [4, 6])) (IN : Hid (I2C 21 ds 2)) (CU : Hid (∀ (A : Option Addr) (cap : Nat), CuC 23 A 3 cap 0 0 lvIts c)) (HC : Hid (c.length = 2)) : LvC 9 := fun w => by
  obtain ⟨W0, hW0⟩ : ∃ W0 : World, W0 = w.alloc (.cells lvIC 37) := ⟨_, rfl⟩
  have HB := Lib.hid (show Below w.heap.size w W0 by rw [hW0]; exact alloc1 _ _)
  have HU := Lib.hid (its_of_block (xs := lvIts) (show W0.heap[w.heap.size]? = some (.cells lvIC 37 (0, 0)) by rw [hW0]; exact heap_alloc_new w _) rfl)
  unfold lvIC at hW0
  go_enter Try.func9, Try.ntmps9
  go_wp2_with fail
  rw [← hW0]
  clear hW0
  with_reducible refine ((VC.out _ _).at0 W0 HU.out).mono ?_
  rintro e w1 ⟨L1, lc1, T1, tc1, rfl, hl1, ht1, hb1⟩
  obtain ⟨W1, hW1⟩ : ∃ W : World, W = w1.alloc (.cells #[.slice L1 ls.length lc1, .slice T1 ts.length tc1] 29) := ⟨_, rfl⟩
  have ha1 : Below w1.heap.size w1 W1 := by rw [hW1]; exact alloc1 _ _
  have hb1' : Below W0.heap.size W0 W1 := hb1.trans (ha1.mono hb1.size)
  have HP1 := Lib.hid (show W1.heap[w1.heap.size]? = some (.cells #[.slice L1 ls.length lc1, .slice T1 ts.length tc1] 29 (0, 0)) by rw [hW1]; exact heap_alloc_new w1 _)
  have HL1 := Lib.hid ((lines_own hl1).below ha1)
  have HT1 := Lib.hid ((ints_own ht1).below ha1)
  replace HU := Lib.hid (HU.out.below hb1')
  replace HB := Lib.hid (HB.out.trans (Below.mono hb1' HB.out.size))
  clear hb1 hb1' ha1 hl1 ht1
  obtain ⟨y0, y1⟩ := view_cells HP1.out
  rw [hW1] at y0 y1
  go_wp2_with fail
  rw [← hW1]
  obtain ⟨v1, hv1⟩ : ∃ v, v = w1.heap.size := ⟨_, rfl⟩
  rw [← hv1]
  rw [← hv1] at HP1
  clear hW1 y0 y1 hv1 VC
  with_reducible refine (AF.out.at W1 HT1.out).mono ?_
  rintro e w2 ⟨rfl, hb2⟩
  replace HU := Lib.hid (HU.out.below hb2)
  replace HB := Lib.hid (HB.out.trans (Below.mono hb2 HB.out.size))
  replace HP1 := Lib.hid ((Below.block hb2 _ (L.blk_lt HP1.out)).trans HP1.out)
  replace HL1 := Lib.hid (HL1.out.below hb2)
  replace HT1 := Lib.hid (HT1.out.below hb2)
  clear hb2 AF
  obtain ⟨y0, y1⟩ := view_cells HP1.out
  go_wp2_with fail
  clear y0 y1
  with_reducible refine (FD.out.at w2 HT1.out).mono ?_
  rintro e w3 ⟨rfl, hb3⟩
  replace HU := Lib.hid (HU.out.below hb3)
  replace HB := Lib.hid (HB.out.trans (Below.mono hb3 HB.out.size))
  replace HP1 := Lib.hid ((Below.block hb3 _ (L.blk_lt HP1.out)).trans HP1.out)
  replace HL1 := Lib.hid (HL1.out.below hb3)
  replace HT1 := Lib.hid (HT1.out.below hb3)
  clear hb3 FD
  obtain ⟨y0, y1⟩ := view_cells HP1.out
  go_wp2_with fail
  clear y0 y1
  with_reducible refine (TX.out.at w3 HL1.out).mono ?_
  rintro e w4 ⟨A3, cap3, rfl, h3, hb4⟩
  replace HU := Lib.hid (HU.out.below hb4)
  replace HB := Lib.hid (HB.out.trans (Below.mono hb4 HB.out.size))
  replace HP1 := Lib.hid ((Below.block hb4 _ (L.blk_lt HP1.out)).trans HP1.out)
  replace HT1 := Lib.hid (HT1.out.below hb4)
  have hcv := conv_in cap3 h3
  obtain ⟨s, hs⟩ : ∃ s : ByteArray, s = ⟨b.toArray⟩ := ⟨_, rfl⟩
  rw [← hs] at hcv
  have hsb : (s.toList == [97, 10, 46, 46, 46, 10]) = true := by rw [hs, HBT.out, Lib.toList_data]; rfl
  clear hb4 TX HL1 hs h3
  obtain ⟨y0, y1⟩ := view_cells HP1.out
  go_wp2_with fail
  clear y0 y1
  with_reducible refine ((ID.out _ _).at w4 HU.out HT1.out).mono ?_
  rintro e w5 ⟨A5, cap5, rfl, h5, hb5⟩
  obtain ⟨W5, hW5⟩ : ∃ W : World, W = w5.alloc (.cells #[.int .i64 4, .int .i64 6] 3) := ⟨_, rfl⟩
  have ha5 : Below w5.heap.size w5 W5 := by rw [hW5]; exact alloc1 _ _
  have hb5' : Below w4.heap.size w4 W5 := hb5.trans (ha5.mono hb5.size)
  have H5 := Lib.hid (h5.below ha5)
  have H6 := Lib.hid (ints_of_block (xs := ds) (show W5.heap[w5.heap.size]? = some (.cells #[.int .i64 4, .int .i64 6] 3 (0, 0)) by rw [hW5]; exact heap_alloc_new w5 _) (by rw [HDS.out]; rfl))
  replace HU := Lib.hid (HU.out.below hb5')
  replace HB := Lib.hid (HB.out.trans (Below.mono hb5' HB.out.size))
  clear hb5 hb5' ha5 h5 HP1 HT1 ID hcv hsb
  go_wp2_with fail
  rw [← hW5]
  clear hW5
  with_reducible refine (IN.out.at W5 H5.out H6.out).mono ?_
  rintro e w6 ⟨rfl, hb6⟩
  replace HU := Lib.hid (HU.out.below hb6)
  replace HB := Lib.hid (HB.out.trans (Below.mono hb6 HB.out.size))
  clear hb6 H5 H6 IN
  go_wp2_with fail
  with_reducible refine ((CU.out _ _).at0 w6 HU.out).mono ?_
  rintro e w7 ⟨A7, cap7, rfl, -, hb7⟩
  replace HB := Lib.hid (HB.out.trans (Below.mono hb7 HB.out.size))
  have hcl : ((c.length : Int) == 2) = true := by rw [HC.out]; rfl
  have hcl2 : (c.length == 2) = true := by rw [HC.out]; rfl
  clear hb7 CU HU
  go_wp2_with fail
  go_ret
  exact ⟨rfl, HB.out⟩
end Go.Proofs.Ytllgeffjkjdadaa.V
