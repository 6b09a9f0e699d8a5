/-
  Layer 21: the tables of wire (the verbs' words and signs, the errors' codes) as they were laid; of, Word, Code.
  The contract of text.Name: it returns, whatever text it is handed, what the plain function says, and leaves the world as it was.
  Layer 21: isFile, number, verb, errno.
  Layer 21: names: is all right that the verb names, and nothing there that it does not name.
  Layer 21: Check, fill, copied.
  Rows of bytes in memory, and the contract of text.cut.
  The contracts of text.Words and text.Lines.
  Plain facts on lines: the bytes of the lines of bytes are the bytes; the lines of the bytes of right lines are the lines.
  What a row of a call's own is, by its address and its cells.
  Rows of lines in memory.
-/
import Derived.Test.YtddakaeacgojmaaDoorGwd
import Derived.Test.YtddakaeacgojmaaDoorGwa
import Derived.Lib.OthersKept
import Derived.Deep.RegionHeldLaw
import Derived.Deep.RegionHeld3
import Derived.Deep.Cut
import Derived.Laws.AppendOwnNone
import Derived.Test.YtddakaeacgojmaaDoorGwc
import Derived.Laws.BytesArg
import Derived.Deep.LoopGhost
import Derived.Lib.ConvBytes
import Derived.Lib.AppendStr
namespace Go.Proofs.YtddakaeacgojmaaDoor.Wr
set_option linter.unusedVariables false
set_option linter.unusedSimpArgs false
open Go.RowKit
open T L

def str (l : List UInt8) : Value := .string ⟨l.toArray⟩
def kCells : List Value := (List.range 24).map fun i => if i % 2 = 0 then str (wds.getD (i / 2) []) else str (sgs.getD (i / 2) [])
def cCells : List Value := cds.map str
/-- The two tables hold what their text lays. -/
structure Kt (w : World) : Prop where
  k : w.var? Tryd.prog "jalousie/wire.kinds" = some kCells.toArray
  c : w.var? Tryd.prog "jalousie/wire.codes" = some cCells.toArray
theorem gK : Tryd.prog.globalNamed "jalousie/wire.kinds" = some 1 := by kernel_rfl
theorem gC : Tryd.prog.globalNamed "jalousie/wire.codes" = some 0 := by kernel_rfl
theorem kc_word : ∀ j, j < 12 → kCells[2 * j]? = some (str (wds.getD j [])) := by
  intro j hj
  simp only [kCells, List.getElem?_map, List.getElem?_range (show 2 * j < 24 by omega), Option.map_some]
  rw [if_pos (by omega), show 2 * j / 2 = j by omega]
theorem kc_sign : ∀ j, j < 12 → kCells[2 * j + 1]? = some (str (sgs.getD j [])) := by
  intro j hj
  simp only [kCells, List.getElem?_map, List.getElem?_range (show 2 * j + 1 < 24 by omega), Option.map_some]
  rw [if_neg (by omega), show (2 * j + 1) / 2 = j by omega]
theorem Kt.word {w : World} (h : Kt w) (j : Nat) (hj : j < 12) : w.cell? ⟨1, j * 2, none⟩ = some (str (wrd j)) := by
  rw [Nat.mul_comm]
  have := World.var?_cell gK h.k (2 * j)
  rw [this, List.getElem?_toArray, kc_word j hj, wrd, if_pos ⟨by omega, by omega⟩]; rfl
theorem Kt.sign {w : World} (h : Kt w) (j : Nat) (hj : j < 12) : w.cell? ⟨1, j * 2 + 1, none⟩ = some (str (sg j)) := by
  rw [Nat.mul_comm]
  have := World.var?_cell gK h.k (2 * j + 1)
  rw [this, List.getElem?_toArray, kc_sign j hj, sg, if_pos ⟨by omega, by omega⟩]; rfl
theorem Kt.code {w : World} (h : Kt w) (j : Nat) (hj : j < 15) : w.cell? ⟨0, j, none⟩ = some (str (cod j)) := by
  have := World.var?_cell gC h.c j
  rw [this, List.getElem?_toArray, cod_at j hj, cCells, List.getElem?_map, List.getElem?_eq_getElem (by rw [cds_len]; exact hj)]; rfl
theorem Kt.sizeK {w : World} (h : Kt w) : 1 < w.heap.size := by
  have hc := h.word 0 (by decide)
  rcases Nat.lt_or_ge 1 w.heap.size with hlt | hge
  · exact hlt
  · simp [World.cell?, Array.getElem?_eq_none hge] at hc
theorem Kt.sizeC {w : World} (h : Kt w) : 0 < w.heap.size := by
  have hc := h.code 0 (by decide)
  rcases Nat.lt_or_ge 0 w.heap.size with hlt | hge
  · exact hlt
  · simp [World.cell?, Array.getElem?_eq_none hge] at hc
theorem Kt.below {B : Nat} {w w' : World} (h : Kt w) (hb : Below B w w') (h1 : 1 < B) (h2 : 0 < B) : Kt w' :=
  ⟨var?_below hb gK h1 h.k, var?_below hb gC h2 h.c⟩
theorem Kt.later {w w' : World} (h : Kt w) (hb : Below w.heap.size w w') : Kt w' := Kt.below h hb (Kt.sizeK h) (Kt.sizeC h)

theorem of_out (v : Int) (w : World) (h : v < 0 ∨ 12 ≤ v) :
    Calls Tryd.prog 32 #[.int .i64 v] w fun e w' => e = .returned (.agg #[str (wrd v), str (sg v)]) ∧ Below w.heap.size w w' := by
  have HW := Lib.hid (wrd_out v h)
  have HS := Lib.hid (sg_out v h)
  have hbel := (Below.refl w.heap.size w).alloc (Nat.le_refl _) (.cells #[.string ⟨#[]⟩, .string ⟨#[]⟩] 58)
  have g1 : (w.alloc (.cells #[.string ⟨#[]⟩, .string ⟨#[]⟩] 58)).heap[w.heap.size]? = some (.cells #[.string ⟨#[]⟩, .string ⟨#[]⟩] 58) := Array.getElem?_push_size
  go_enter Tryd.func32, Tryd.ntmps32
  go_wp2_with fail
  all_goals
    have q0 := blk_cell g1 0
    have q1 := blk_cell g1 1
    exact bodyPost_ret (v := .agg #[.string ⟨#[]⟩, .string ⟨#[]⟩]) (by simp [results, Tryd.results32, go_sem, q0, q1]) rfl ⟨ret_of (by rw [HW.out, HS.out]; rfl), hbel⟩
theorem of_in (k : Nat) (w : World) (h : k < 12) (hK : Kt w) :
    Calls Tryd.prog 32 #[.int .i64 k] w fun e w' => e = .returned (.agg #[str (wrd k), str (sg k)]) ∧ Below w.heap.size w w' := by
  have h1 := hK.word k h
  have h2 := hK.sign k h
  have hlt := hK.sizeK
  unfold str at h1 h2 ⊢
  generalize (⟨(wrd (k : Int)).toArray⟩ : ByteArray) = x at *
  generalize (⟨(sg (k : Int)).toArray⟩ : ByteArray) = y at *
  have hbel := (Below.refl w.heap.size w).alloc (Nat.le_refl _) (.cells #[.string ⟨#[]⟩, .string ⟨#[]⟩] 58)
  have g1 : (w.alloc (.cells #[.string ⟨#[]⟩, .string ⟨#[]⟩] 58)).heap[w.heap.size]? = some (.cells #[.string ⟨#[]⟩, .string ⟨#[]⟩] 58) := Array.getElem?_push_size
  go_enter Tryd.func32, Tryd.ntmps32
  go_wp2_with fail
  have hbel2 := (Below.refl w.heap.size w).alloc (Nat.le_refl _) (.cells #[.string x, .string y] 58)
  have g2 : (w.alloc (.cells #[.string x, .string y] 58)).heap[w.heap.size]? = some (.cells #[.string x, .string y] 58) := Array.getElem?_push_size
  have q0 := blk_cell g2 0
  have q1 := blk_cell g2 1
  exact bodyPost_ret (v := .agg #[.string x, .string y]) (by simp [results, Tryd.results32, go_sem, q0, q1]) rfl ⟨ret_of rfl, hbel2⟩
theorem of_any (v : Int) (w : World) (hK : Kt w) :
    Calls Tryd.prog 32 #[.int .i64 v] w fun e w' => e = .returned (.agg #[str (wrd v), str (sg v)]) ∧ Below w.heap.size w w' := by
  by_cases h : 0 ≤ v ∧ v < 12
  · obtain ⟨k, rfl⟩ := Int.eq_ofNat_of_zero_le h.1
    exact of_in k w (by omega) hK
  · exact of_out v w (by omega)

theorem field_kd0 (x y : ByteArray) (wz : World) : (Instr.field 58 (.agg #[.string x, .string y]) 0).run Tryd.prog wz = .ok (.string x) wz := by kernel_rfl
theorem field_kd1 (x y : ByteArray) (wz : World) : (Instr.field 58 (.agg #[.string x, .string y]) 1).run Tryd.prog wz = .ok (.string y) wz := by kernel_rfl
theorem word_any (v : Int) (w : World) (hK : Kt w) :
    Calls Tryd.prog 13 #[.int .i64 v] w fun e w' => e = .returned (str (wrd v)) ∧ Below w.heap.size w w' := by
  have HO := Lib.hid (of_any v w hK)
  unfold str at HO ⊢
  generalize (⟨(wrd v).toArray⟩ : ByteArray) = x at *
  generalize (⟨(sg v).toArray⟩ : ByteArray) = y at *
  go_enter Tryd.func13, Tryd.ntmps13
  go_wp2_with fail
  refine HO.out.mono ?_
  rintro e w' ⟨rfl, hb⟩
  clear HO
  have F0 := field_kd0 x y
  go_wp2_with fail
  go_ret
  exact ⟨ret_of rfl, hb⟩

theorem code_in (k : Nat) (w : World) (h : k < 15) (hK : Kt w) :
    Calls Tryd.prog 22 #[.int .i64 k] w fun e w' => e = .returned (str (cod k)) ∧ w' = w := by
  have h1 := hK.code k h
  unfold str at h1 ⊢
  generalize (⟨(cod (k : Int)).toArray⟩ : ByteArray) = x at *
  go_enter Tryd.func22, Tryd.ntmps22
  go_wp2_with fail
  go_ret
  exact ⟨ret_of rfl, rfl⟩
theorem code_out (v : Int) (w : World) (h : v < 0 ∨ 15 ≤ v) :
    Calls Tryd.prog 22 #[.int .i64 v] w fun e w' => e = .returned (str (cod v)) ∧ w' = w := by
  have HW := Lib.hid (cod_out v h)
  go_enter Tryd.func22, Tryd.ntmps22
  go_wp2_with fail
  all_goals
    go_ret
    exact ⟨ret_of (by rw [HW.out]; rfl), rfl⟩
theorem code_any (v : Int) (w : World) (hK : Kt w) :
    Calls Tryd.prog 22 #[.int .i64 v] w fun e w' => e = .returned (str (cod v)) ∧ w' = w := by
  by_cases h : 0 ≤ v ∧ v < 15
  · obtain ⟨k, rfl⟩ := Int.eq_ofNat_of_zero_le h.1
    exact code_in k w (by omega) hK
  · exact code_out v w (by omega)
end Go.Proofs.YtddakaeacgojmaaDoor.Wr

namespace Go.Proofs.YtddakaeacgojmaaDoor.T
open Go.RowKit

/-- May a text be a name? -/
theorem name_long (s : ByteArray) (h : s.size < 1 ∨ 64 < s.size) : P.name s.data.toList = false := by
  unfold P.name; rw [← Lib.size_eq]
  rcases h with h | h
  · rw [decide_eq_false (by omega)]; rfl
  · rw [decide_eq_false (p := s.size ≤ 64) (by omega), Bool.and_false]; rfl
theorem name_all (s : ByteArray) (h1 : 1 ≤ s.size) (h2 : s.size ≤ 64) : P.name s.data.toList = s.data.toList.all fun c => decide (33 ≤ c.toNat) && decide (c.toNat ≤ 126) := by
  unfold P.name; rw [← Lib.size_eq, decide_eq_true h1, decide_eq_true h2]; rfl
theorem all_bad (s : ByteArray) (k : Nat) (hk : k < s.size) (h : (s[k].toNat : Int) < 33 ∨ 126 < (s[k].toNat : Int)) : (s.data.toList.all fun c => decide (33 ≤ c.toNat) && decide (c.toNat ≤ 126)) = false := by
  have hl : k < s.data.toList.length := by rw [← Lib.size_eq]; exact hk
  rw [List.all_eq_false]
  refine ⟨s.data.toList[k], List.getElem_mem hl, ?_⟩
  rw [byte s k hk hl]
  simp only [Bool.and_eq_true, decide_eq_true_eq, not_and]
  omega

set_option maxHeartbeats 400000 in
theorem name_any (s : ByteArray) (w : World) (hs : s.size ≤ maxLen) :
    Calls Tryd.prog 60 #[.string s] w fun e w' => e = .returned (.bool (P.name s.data.toList)) ∧ w = w' := by
  unfold maxLen at hs
  by_cases h1 : s.size < 1
  · have Hn := Lib.hid (name_long s (.inl h1))
    go_enter Tryd.func60, Tryd.ntmps60
    go_wp2
    go_ret
    exact ⟨ret_of (by rw [Hn.out]; rfl), rfl⟩
  by_cases h2 : 64 < s.size
  · have Hn := Lib.hid (name_long s (.inr h2))
    go_enter Tryd.func60, Tryd.ntmps60
    go_wp2
    go_ret
    exact ⟨ret_of (by rw [Hn.out]; rfl), rfl⟩
  have Hn := Lib.hid (name_all s (by omega) (by omega))
  go_enter Tryd.func60, Tryd.ntmps60
  go_wp2
  go_loop [14] (fun i => ∃ k : Nat, k ≤ s.size ∧ i = .int .i64 k ∧ Hid (∀ j (hj : j < s.data.toList.length), j < k → 33 ≤ s.data.toList[j].toNat ∧ s.data.toList[j].toNat ≤ 126)) (fun i => s.size - (intOf i).toNat)
  case atStart => exact ⟨0, Nat.zero_le _, rfl, Lib.hid (fun j _ h => absurd h (by omega))⟩
  case round =>
    obtain ⟨k, hk, rfl, HR⟩ := hrel
    by_cases hlt : k < s.size
    · go_wp2
      · go_ret
        exact ⟨ret_of (by rw [Hn.out, all_bad s k hlt (by omega)]; rfl), rfl⟩
      · have hlo : 33 ≤ (s[k].toNat : Int) := by omega
        have hhi : (s[k].toNat : Int) ≤ 126 := by omega
        go_round
        case rel =>
          refine ⟨k + 1, by omega, by go_num, Lib.hid (fun j hj hjk => ?_)⟩
          by_cases e : j = k
          · subst e; rw [byte s j hlt hj]; omega
          · exact HR.out j hj (by omega)
        case measure => simp [intOf]; omega
      · go_ret
        exact ⟨ret_of (by rw [Hn.out, all_bad s k hlt (by omega)]; rfl), rfl⟩
    · go_wp2
      go_ret
      have hall : (s.data.toList.all fun c => decide (33 ≤ c.toNat) && decide (c.toNat ≤ 126)) = true := by
        rw [List.all_eq_true]
        intro c hc
        obtain ⟨j, hj, rfl⟩ := List.getElem_of_mem hc
        have := HR.out j hj (by rw [← Lib.size_eq] at hj; omega)
        rw [decide_eq_true this.1, decide_eq_true this.2]; rfl
      exact ⟨ret_of (by rw [Hn.out, hall]; rfl), rfl⟩
end Go.Proofs.YtddakaeacgojmaaDoor.T

namespace Go.Proofs.YtddakaeacgojmaaDoor.Wr
set_option linter.unusedVariables false
set_option linter.unusedSimpArgs false
open Go.RowKit
open T L

theorem str_is (s : ByteArray) : str s.data.toList = .string s := by unfold str; rw [L.eta]
theorem eq_yes {a b : List UInt8} (h : a = b) : ((⟨a.toArray⟩ : ByteArray).toList == (⟨b.toArray⟩ : ByteArray).toList) = true := by rw [h]; exact beq_self_eq_true _
theorem eq_no {a b : List UInt8} (h : ¬ a = b) : ((⟨a.toArray⟩ : ByteArray).toList == (⟨b.toArray⟩ : ByteArray).toList) = false := by
  rw [Lib.toList_data, Lib.toList_data]; exact beq_eq_false_iff_ne.2 h

theorem isFile_any (s : ByteArray) (w : World) (hs : s.size ≤ maxLen) :
    Calls Tryd.prog 47 #[.string s] w fun e w' => e = .returned (.bool (isF s.data.toList)) ∧ w' = w := by
  have HN := Lib.hid (name_any s w hs)
  have HF := Lib.hid (show isF s.data.toList = (P.name s.data.toList && !decide (s.data.toList = [45])) from rfl)
  generalize isF s.data.toList = r at *
  generalize P.name s.data.toList = p at *
  go_enter Tryd.func47, Tryd.ntmps47
  go_wp2_with fail
  refine HN.out.mono ?_
  rintro e w' ⟨rfl, rfl⟩
  cases p
  · go_wp2_with fail
    go_ret
    exact ⟨ret_of (by rw [HF.out]; rfl), rfl⟩
  · have E : (s.toList == [45]) = decide (s.data.toList = [45]) := by
      rw [Lib.toList_data]; by_cases h : s.data.toList = [45] <;> simp [h]
    go_wp2_with fail
    go_ret
    exact ⟨ret_of (by rw [HF.out]; rfl), rfl⟩

theorem number_a (b : Nat) (w : World) :
    Calls Tryd.prog 44 #[.pointer (some ⟨b, 0, none⟩), .int .i32 65] w fun e w' => e = .returned (.pointer (some ⟨b, 4, none⟩)) ∧ w' = w := by
  go_enter Tryd.func44, Tryd.ntmps44
  go_wp2_with fail
  go_ret
  exact ⟨ret_of rfl, rfl⟩
theorem number_b (b : Nat) (w : World) :
    Calls Tryd.prog 44 #[.pointer (some ⟨b, 0, none⟩), .int .i32 66] w fun e w' => e = .returned (.pointer (some ⟨b, 5, none⟩)) ∧ w' = w := by
  go_enter Tryd.func44, Tryd.ntmps44
  go_wp2_with fail
  go_ret
  exact ⟨ret_of rfl, rfl⟩
theorem number_c (b : Nat) (w : World) :
    Calls Tryd.prog 44 #[.pointer (some ⟨b, 0, none⟩), .int .i32 67] w fun e w' => e = .returned (.pointer (some ⟨b, 6, none⟩)) ∧ w' = w := by
  go_enter Tryd.func44, Tryd.ntmps44
  go_wp2_with fail
  go_ret
  exact ⟨ret_of rfl, rfl⟩

theorem fnd_step (x : List UInt8) (l : List (List UInt8)) (k : Nat) (h : k < l.length) : fnd x (l.drop k) k = if l[k] = x then some k else fnd x (l.drop (k + 1)) (k + 1) := by
  rw [List.drop_eq_getElem_cons h, fnd]

set_option maxRecDepth 100000 in
theorem verb_any (s : ByteArray) (w : World) (hK : Kt w) :
    Calls Tryd.prog 51 #[.string s] w fun e w' => e = .returned (.int .i64 (vrb s.data.toList)) ∧ Below w.heap.size w w' := by
  obtain ⟨x, rfl⟩ : ∃ x : List UInt8, s = ⟨x.toArray⟩ := ⟨s.data.toList, (L.eta s).symm⟩
  simp only []
  have HV := Lib.hid (show vrb x = (match fnd x (wds.drop 1) 1 with | some n => (n : Int) | none => 0) from rfl)
  generalize vrb x = r at *
  go_enter Tryd.func51, Tryd.ntmps51
  go_wp2_with fail
  go_loopg [3] 12 (fun m i wr => ∃ k : Nat, 1 ≤ k ∧ k ≤ 12 ∧ i = .int .i64 (k : Int) ∧ 12 - k ≤ m ∧ Hid (fnd x (wds.drop 1) 1 = fnd x (wds.drop k) k) ∧ Hid (Below w.heap.size w wr))
  case atStart => exact ⟨1, by omega, by omega, rfl, by omega, Lib.hid rfl, Lib.hid (Below.refl _ _)⟩
  case round =>
    obtain ⟨k, h1, h2, rfl, hm, HF, HB⟩ := hrel
    by_cases hk : k < 12
    · have HW := Lib.hid (word_any (k : Int) wr (hK.later HB.out))
      rw [wrd_at k hk] at HW
      have HS := HF.out.trans (fnd_step x wds k hk)
      unfold str at HW
      by_cases he : wds[k] = x
      · have E : (wds[k] == x) = true := beq_iff_eq.2 he
        rw [if_pos he] at HS
        have HS := Lib.hid HS
        generalize wds[k] = y at *
        go_wp2_with fail
        refine HW.out.mono ?_
        rintro e w1 ⟨rfl, hb⟩
        go_wp2_with fail
        go_ret
        exact ⟨ret_of (by rw [HV.out, HS.out]; rfl), HB.out.trans (hb.mono HB.out.size)⟩
      · have E : (wds[k] == x) = false := beq_eq_false_iff_ne.2 he
        rw [if_neg he] at HS
        have HS := Lib.hid HS
        generalize wds[k] = y at *
        go_wp2_with fail
        refine HW.out.mono ?_
        rintro e w1 ⟨rfl, hb⟩
        go_wp2_with fail
        go_roundg (12 - (k + 1))
        case measure => omega
        case rel => exact ⟨k + 1, by omega, by omega, by go_num, Nat.le_refl _, HS, Lib.hid (HB.out.trans (hb.mono HB.out.size))⟩
    · obtain rfl : k = 12 := by omega
      go_wp2_with fail
      go_ret
      exact ⟨ret_of (by rw [HV.out, HF.out]; rfl), HB.out⟩
def ernV (o : Option Nat) : Value := match o with
  | some n => .tuple #[.int .i64 (n : Int), .bool true]
  | none => .tuple #[.int .i64 0, .bool false]
set_option maxRecDepth 100000 in
theorem errno_any (s : ByteArray) (w : World) (hK : Kt w) :
    Calls Tryd.prog 41 #[.string s] w fun e w' => e = .returned (ernV (ern s.data.toList)) ∧ w' = w := by
  obtain ⟨x, rfl⟩ : ∃ x : List UInt8, s = ⟨x.toArray⟩ := ⟨s.data.toList, (L.eta s).symm⟩
  simp only []
  have HV := Lib.hid (show ern x = fnd x cds 0 from rfl)
  generalize ern x = r at *
  go_enter Tryd.func41, Tryd.ntmps41
  go_wp2_with fail
  go_loopg [4] 15 (fun m i wr => ∃ k : Nat, k ≤ 15 ∧ i = .int .i64 (k : Int) ∧ 15 - k ≤ m ∧ Hid (fnd x cds 0 = fnd x (cds.drop k) k) ∧ wr = w)
  case atStart => exact ⟨0, by omega, rfl, by omega, Lib.hid rfl, rfl⟩
  case round =>
    obtain ⟨k, h2, rfl, hm, HF, rfl⟩ := hrel
    by_cases hk : k < 15
    · have HW := Lib.hid (code_any (k : Int) wr hK)
      rw [cod_at k hk] at HW
      have HS := HF.out.trans (fnd_step x cds k hk)
      unfold str at HW
      by_cases he : cds[k] = x
      · have E : (cds[k] == x) = true := beq_iff_eq.2 he
        rw [if_pos he] at HS
        have HS := Lib.hid HS
        generalize cds[k] = y at *
        go_wp2_with fail
        refine HW.out.mono ?_
        rintro e w1 ⟨rfl, rfl⟩
        go_wp2_with fail
        exact bodyPost_ret (v := .tuple #[.int .i64 (k : Int), .bool true]) (by simp [results, Tryd.results41, go_sem]) rfl ⟨ret_of (by rw [HV.out, HS.out]; rfl), rfl⟩
      · have E : (cds[k] == x) = false := beq_eq_false_iff_ne.2 he
        rw [if_neg he] at HS
        have HS := Lib.hid HS
        generalize cds[k] = y at *
        go_wp2_with fail
        refine HW.out.mono ?_
        rintro e w1 ⟨rfl, rfl⟩
        go_wp2_with fail
        go_roundg (15 - (k + 1))
        case measure => omega
        case rel => exact ⟨k + 1, by omega, by go_num, Nat.le_refl _, HS, rfl⟩
    · obtain rfl : k = 15 := by omega
      go_wp2_with fail
      exact bodyPost_ret (v := .tuple #[.int .i64 0, .bool false]) (by simp [results, Tryd.results41, go_sem]) rfl ⟨ret_of (by rw [HV.out, HF.out]; rfl), rfl⟩
end Go.Proofs.YtddakaeacgojmaaDoor.Wr

namespace Go.Proofs.YtddakaeacgojmaaDoor.Wr
set_option linter.unusedVariables false
set_option linter.unusedSimpArgs false
open Go.RowKit
open T L

/-- A request as the cells of its block. -/
def rqC (vb lv : Int) (ct : Nat) (fi : ByteArray) (a b c : Int) (B : Option Addr) (n m : Nat) : Array Value :=
  #[.int .i64 vb, .int .i64 lv, .int .u64 (ct : Int), .string fi, .int .i64 a, .int .i64 b, .int .i64 c, .slice B n m]
def RqAt (W : World) (g : Nat) (vb lv : Int) (ct : Nat) (fi : ByteArray) (a b c : Int) (B : Option Addr) (n m : Nat) : Prop :=
  W.heap[g]? = some (.cells (rqC vb lv ct fi a b c B n m) 28 (0, 0))
section
variable {W : World} {g : Nat} {vb lv : Int} {ct : Nat} {fi : ByteArray} {a b c : Int} {B : Option Addr} {n m : Nat}
theorem RqAt.c0 (h : RqAt W g vb lv ct fi a b c B n m) : W.cell? ⟨g, 0, none⟩ = some (.int .i64 vb) := blk_cell h 0
theorem RqAt.c1 (h : RqAt W g vb lv ct fi a b c B n m) : W.cell? ⟨g, 1, none⟩ = some (.int .i64 lv) := blk_cell h 1
theorem RqAt.c2 (h : RqAt W g vb lv ct fi a b c B n m) : W.cell? ⟨g, 2, none⟩ = some (.int .u64 (ct : Int)) := blk_cell h 2
theorem RqAt.c3 (h : RqAt W g vb lv ct fi a b c B n m) : W.cell? ⟨g, 3, none⟩ = some (.string fi) := blk_cell h 3
theorem RqAt.c4 (h : RqAt W g vb lv ct fi a b c B n m) : W.cell? ⟨g, 4, none⟩ = some (.int .i64 a) := blk_cell h 4
theorem RqAt.c5 (h : RqAt W g vb lv ct fi a b c B n m) : W.cell? ⟨g, 5, none⟩ = some (.int .i64 b) := blk_cell h 5
theorem RqAt.c6 (h : RqAt W g vb lv ct fi a b c B n m) : W.cell? ⟨g, 6, none⟩ = some (.int .i64 c) := blk_cell h 6
theorem RqAt.c7 (h : RqAt W g vb lv ct fi a b c B n m) : W.cell? ⟨g, 7, none⟩ = some (.slice B n m) := blk_cell h 7
theorem RqAt.s3 (h : RqAt W g vb lv ct fi a b c B n m) (x : ByteArray) : RqAt (W.setCell ⟨g, 3, none⟩ (.string x)) g vb lv ct x a b c B n m := blk_set h 3 _
theorem RqAt.s4 (h : RqAt W g vb lv ct fi a b c B n m) (x : Int) : RqAt (W.setCell ⟨g, 4, none⟩ (.int .i64 x)) g vb lv ct fi x b c B n m := blk_set h 4 _
theorem RqAt.s5 (h : RqAt W g vb lv ct fi a b c B n m) (x : Int) : RqAt (W.setCell ⟨g, 5, none⟩ (.int .i64 x)) g vb lv ct fi a x c B n m := blk_set h 5 _
theorem RqAt.s6 (h : RqAt W g vb lv ct fi a b c B n m) (x : Int) : RqAt (W.setCell ⟨g, 6, none⟩ (.int .i64 x)) g vb lv ct fi a b x B n m := blk_set h 6 _
theorem RqAt.s7 (h : RqAt W g vb lv ct fi a b c B n m) (D : Option Addr) (n' m' : Nat) : RqAt (W.setCell ⟨g, 7, none⟩ (.slice D n' m')) g vb lv ct fi a b c D n' m' := blk_set h 7 _
end
def nmsOf (r : Rq) (s : List UInt8) : Bool := match run r s with | some r' => zer r' | none => false
theorem nms_of (r : Rq) : nms r = nmsOf r (sg r.vb) := rfl
theorem nms_step (r : Rq) (s : List UInt8) (k : Nat) (h : k < s.length) : nmsOf r (s.drop k) = match stp r s[k] with | some r' => nmsOf r' (s.drop (k + 1)) | none => false := by
  rw [List.drop_eq_getElem_cons h]
  unfold nmsOf
  rw [run]
  cases stp r s[k] <;> rfl
theorem nms_end (r : Rq) (s : List UInt8) : nmsOf r (s.drop s.length) = zer r := by rw [List.drop_length]; rfl

set_option maxHeartbeats 4000000 in
set_option maxRecDepth 100000 in
theorem names_any (vb lv : Int) (ct : Nat) (fi : List UInt8) (a b c : Int) (bo : List UInt8) (B : Option Addr) (m : Nat) (w : World) (hK : Kt w) (hf : fi.length ≤ maxLen) :
    Calls Tryd.prog 29 #[.agg #[.int .i64 vb, .int .i64 lv, .int .u64 (ct : Int), .string ⟨fi.toArray⟩, .int .i64 a, .int .i64 b, .int .i64 c, .slice B bo.length m]] w
      fun e w' => e = .returned (.bool (nms ⟨vb, lv, ct, fi, a, b, c, bo⟩)) ∧ Below w.heap.size w w' := by
  have HR := Lib.hid (nms_of ⟨vb, lv, ct, fi, a, b, c, bo⟩)
  generalize nms ⟨vb, lv, ct, fi, a, b, c, bo⟩ = res at *
  simp only [] at HR
  have hsg := sg_in vb
  have HSG := Lib.hid hsg
  have hss := sg_short vb
  clear hsg
  obtain ⟨W1, hW1⟩ : ∃ W : World, W = w.alloc (.cells #[.int .i64 vb, .int .i64 lv, .int .u64 (ct : Int), .string ⟨fi.toArray⟩, .int .i64 a, .int .i64 b, .int .i64 c, .slice B bo.length m] 28) := ⟨_, rfl⟩
  have HX : RqAt W1 w.heap.size vb lv ct ⟨fi.toArray⟩ a b c B bo.length m := by rw [hW1]; exact Array.getElem?_push_size
  have HB1 : Below w.heap.size w W1 := by rw [hW1]; exact (Below.refl w.heap.size w).alloc (Nat.le_refl _) _
  have hlt1 : w.heap.size < W1.heap.size := blk_lt HX
  have HO := Lib.hid (of_any vb W1 (hK.later HB1))
  unfold str at HO
  generalize hss' : sg vb = s at *
  clear hss'
  generalize (⟨(wrd vb).toArray⟩ : ByteArray) = wd at *
  have q0 := HX.c0
  have F1 := field_kd1 wd ⟨s.toArray⟩
  have HX1 := Lib.hid HX
  clear HX
  go_enter Tryd.func29, Tryd.ntmps29
  go_upto_region 1 with fail
  rw [← hW1]
  clear hW1
  go_wp2_with fail
  refine HO.out.mono ?_
  rintro e w2 ⟨rfl, hb2⟩
  have hsz := hb2.size
  have HX2 : RqAt w2 w.heap.size vb lv ct ⟨fi.toArray⟩ a b c B bo.length m := (hb2.block _ hlt1).trans HX1.out
  have HX3 := Lib.hid (show RqAt (w2.alloc (.stringIter ⟨s.toArray⟩ 0)) w.heap.size vb lv ct ⟨fi.toArray⟩ a b c B bo.length m from (((Below.refl _ w2).alloc (Nat.le_refl _) _).block _ (by omega)).trans HX2)
  have HI3 := Lib.hid (show (w2.alloc (.stringIter ⟨s.toArray⟩ 0)).heap[w2.heap.size]? = some (.stringIter ⟨s.toArray⟩ 0) from Array.getElem?_push_size)
  have HB3 := Lib.hid (show Below w.heap.size w (w2.alloc (.stringIter ⟨s.toArray⟩ 0)) from (HB1.trans (hb2.mono (by omega))).alloc (by omega) _)
  have hib : w.heap.size < w2.heap.size := by omega
  clear HX2 hb2 HB1 q0 HO hsz HX1 hlt1
  go_wp2_with fail
  clear F1
  go_loopg [4] s.length (fun n i wr => ∃ (k : Nat) (fi' : List UInt8) (a' b' c' : Int) (bo' : List UInt8) (B' : Option Addr) (m' : Nat), k ≤ s.length ∧ s.length - k ≤ n ∧ fi'.length ≤ maxLen ∧
    Hid (res = nmsOf ⟨vb, lv, ct, fi', a', b', c', bo'⟩ (s.drop k)) ∧ Hid (RqAt wr w.heap.size vb lv ct ⟨fi'.toArray⟩ a' b' c' B' bo'.length m') ∧ Hid (wr.heap[w2.heap.size]? = some (.stringIter ⟨s.toArray⟩ k)) ∧ Hid (Below w.heap.size w wr))
  case atStart => exact ⟨0, fi, a, b, c, bo, B, m, Nat.zero_le _, by omega, hf, HR, HX3, HI3, HB3⟩
  case round =>
    clear HX3 HI3 HB3 HR hf
    obtain ⟨k, fi', a', b', c', bo', B', m', hk, hn, hf, HR, HX, HI, HB⟩ := hrel
    by_cases hlt : k < s.length
    · have hs : k < (⟨s.toArray⟩ : ByteArray).size := by simpa [ByteArray.size] using hlt
      have ec : (⟨s.toArray⟩ : ByteArray)[k]'hs = s[k] := rfl
      have hin := HSG.out s[k] (List.getElem_mem hlt)
      have HS := HR.out.trans (nms_step _ s k hlt)
      have hasc : ((⟨s.toArray⟩ : ByteArray)[k]'hs).toNat < 128 := by rw [ec]; rcases hin with h | h | h | h | h <;> rw [h] <;> decide
      have HN := fun ty => Lib.run_next_ascii_at (P := Tryd.prog) wr w2.heap.size ⟨s.toArray⟩ k ty HI.out hs hasc
      rw [ec] at HN
      have HXn := Lib.hid (show RqAt (wr.iterAt w2.heap.size ⟨s.toArray⟩ (k + 1)) w.heap.size vb lv ct ⟨fi'.toArray⟩ a' b' c' B' bo'.length m' from (Lib.iterAt_other wr _ _ _ _ (by omega)).trans HX.out)
      have HIn := Lib.hid (Lib.iterAt_heap wr _ _ _ (k + 1) HI.out)
      have HBn := Lib.hid (Lib.below_iterAt HB.out (k := w2.heap.size) (by omega) ⟨s.toArray⟩ (k + 1))
      clear hasc ec
      generalize s[k] = ch at *
      generalize wr.iterAt w2.heap.size ⟨s.toArray⟩ (k + 1) = wn at *
      clear HX HI HB HR
      have c3 := HXn.out.c3
      have c4 := HXn.out.c4
      have c5 := HXn.out.c5
      have c6 := HXn.out.c6
      have c7 := HXn.out.c7
      rcases hin with rfl | rfl | rfl | rfl | rfl
      · have HF := Lib.hid (isFile_any ⟨fi'.toArray⟩ wn (by simpa [ByteArray.size] using hf))
        have e3 := blk_free HXn.out 3
        cases hb : isF fi' with
        | false =>
          have HS2 := Lib.hid (show res = false by rw [HS]; unfold stp; simp only [hb]; rfl)
          have HF2 := Lib.hid (show Calls Tryd.prog 47 #[.string ⟨fi'.toArray⟩] wn fun e w' => e = .returned (.bool false) ∧ w' = wn from HF.out.mono fun e w' h => ⟨h.1.trans (by rw [show isF (⟨fi'.toArray⟩ : ByteArray).data.toList = false from hb]), h.2⟩)
          clear HF HS
          go_wp2_with fail
          refine HF2.out.mono ?_
          rintro e w4 ⟨rfl, rfl⟩
          go_wp2_with fail
          go_ret
          exact ⟨ret_of (by rw [HS2.out]; rfl), HBn.out⟩
        | true =>
          have HS2 := Lib.hid (show res = nmsOf ⟨vb, lv, ct, [], a', b', c', bo'⟩ (s.drop (k + 1)) by rw [HS]; unfold stp; simp only [hb]; rfl)
          have HF2 := Lib.hid (show Calls Tryd.prog 47 #[.string ⟨fi'.toArray⟩] wn fun e w' => e = .returned (.bool true) ∧ w' = wn from HF.out.mono fun e w' h => ⟨h.1.trans (by rw [show isF (⟨fi'.toArray⟩ : ByteArray).data.toList = true from hb]), h.2⟩)
          clear HF HS
          go_wp2_with fail
          refine HF2.out.mono ?_
          rintro e w4 ⟨rfl, rfl⟩
          go_wp2_with fail
          go_roundg (s.length - (k + 1))
          case measure => omega
          case rel => exact ⟨k + 1, [], a', b', c', bo', B', m', by omega, Nat.le_refl _, Nat.zero_le _, HS2, Lib.hid (HXn.out.s3 ⟨#[]⟩), Lib.hid ((blk_far (by omega) _).trans HIn.out), Lib.hid (HBn.out.setCell (Nat.le_refl _) _)⟩
      · have e7 := blk_free HXn.out 7
        have HS2 := Lib.hid (show res = nmsOf ⟨vb, lv, ct, fi', a', b', c', []⟩ (s.drop (k + 1)) by rw [HS]; rfl)
        clear HS
        go_wp2_with fail
        go_roundg (s.length - (k + 1))
        case measure => omega
        case rel => exact ⟨k + 1, fi', a', b', c', [], none, 0, by omega, Nat.le_refl _, hf, HS2, Lib.hid (HXn.out.s7 none 0 0), Lib.hid ((blk_far (by omega) _).trans HIn.out), Lib.hid (HBn.out.setCell (Nat.le_refl _) _)⟩
      · have e4 := blk_free HXn.out 4
        have HC := Lib.hid (number_a w.heap.size wn)
        by_cases hbad : a' < 0 ∨ 2147483647 < a'
        · have HS2 := Lib.hid (show res = false by rw [HS]; unfold stp okN; rcases hbad with h | h <;> simp [h])
          clear HS
          rcases hbad with hbad | hbad
          · go_wp2_with fail
            refine HC.out.mono ?_
            rintro e w4 ⟨rfl, rfl⟩
            go_wp2_with fail
            go_ret
            exact ⟨ret_of (by rw [HS2.out]; rfl), HBn.out⟩
          · have hbad2 : ¬ a' < 0 := by omega
            go_wp2_with fail
            refine HC.out.mono ?_
            rintro e w4 ⟨rfl, rfl⟩
            go_wp2_with fail
            go_ret
            exact ⟨ret_of (by rw [HS2.out]; rfl), HBn.out⟩
        · have HS2 := Lib.hid (show res = nmsOf ⟨vb, lv, ct, fi', 0, b', c', bo'⟩ (s.drop (k + 1)) by
            have h1 : ¬ a' < 0 := by omega
            have h2 : ¬ 2147483647 < a' := by omega
            rw [HS]; unfold stp okN; simp [h1, h2])
          clear HS
          have hbad1 : ¬ a' < 0 := by omega
          have hbad2 : ¬ 2147483647 < a' := by omega
          go_wp2_with fail
          refine HC.out.mono ?_
          rintro e w4 ⟨rfl, rfl⟩
          go_wp2_with fail
          go_roundg (s.length - (k + 1))
          case measure => omega
          case rel => exact ⟨k + 1, fi', 0, b', c', bo', B', m', by omega, Nat.le_refl _, hf, HS2, Lib.hid (HXn.out.s4 0), Lib.hid ((blk_far (by omega) _).trans HIn.out), Lib.hid (HBn.out.setCell (Nat.le_refl _) _)⟩
      · have e5 := blk_free HXn.out 5
        have HC := Lib.hid (number_b w.heap.size wn)
        by_cases hbad : b' < 0 ∨ 2147483647 < b'
        · have HS2 := Lib.hid (show res = false by rw [HS]; unfold stp okN; rcases hbad with h | h <;> simp [h])
          clear HS
          rcases hbad with hbad | hbad
          · go_wp2_with fail
            refine HC.out.mono ?_
            rintro e w4 ⟨rfl, rfl⟩
            go_wp2_with fail
            go_ret
            exact ⟨ret_of (by rw [HS2.out]; rfl), HBn.out⟩
          · have hbad2 : ¬ b' < 0 := by omega
            go_wp2_with fail
            refine HC.out.mono ?_
            rintro e w4 ⟨rfl, rfl⟩
            go_wp2_with fail
            go_ret
            exact ⟨ret_of (by rw [HS2.out]; rfl), HBn.out⟩
        · have HS2 := Lib.hid (show res = nmsOf ⟨vb, lv, ct, fi', a', 0, c', bo'⟩ (s.drop (k + 1)) by
            have h1 : ¬ b' < 0 := by omega
            have h2 : ¬ 2147483647 < b' := by omega
            rw [HS]; unfold stp okN; simp [h1, h2])
          clear HS
          have hbad1 : ¬ b' < 0 := by omega
          have hbad2 : ¬ 2147483647 < b' := by omega
          go_wp2_with fail
          refine HC.out.mono ?_
          rintro e w4 ⟨rfl, rfl⟩
          go_wp2_with fail
          go_roundg (s.length - (k + 1))
          case measure => omega
          case rel => exact ⟨k + 1, fi', a', 0, c', bo', B', m', by omega, Nat.le_refl _, hf, HS2, Lib.hid (HXn.out.s5 0), Lib.hid ((blk_far (by omega) _).trans HIn.out), Lib.hid (HBn.out.setCell (Nat.le_refl _) _)⟩
      · have e6 := blk_free HXn.out 6
        have HC := Lib.hid (number_c w.heap.size wn)
        by_cases hbad : c' < 0 ∨ 2147483647 < c'
        · have HS2 := Lib.hid (show res = false by rw [HS]; unfold stp okN; rcases hbad with h | h <;> simp [h])
          clear HS
          rcases hbad with hbad | hbad
          · go_wp2_with fail
            refine HC.out.mono ?_
            rintro e w4 ⟨rfl, rfl⟩
            go_wp2_with fail
            go_ret
            exact ⟨ret_of (by rw [HS2.out]; rfl), HBn.out⟩
          · have hbad2 : ¬ c' < 0 := by omega
            go_wp2_with fail
            refine HC.out.mono ?_
            rintro e w4 ⟨rfl, rfl⟩
            go_wp2_with fail
            go_ret
            exact ⟨ret_of (by rw [HS2.out]; rfl), HBn.out⟩
        · have HS2 := Lib.hid (show res = nmsOf ⟨vb, lv, ct, fi', a', b', 0, bo'⟩ (s.drop (k + 1)) by
            have h1 : ¬ c' < 0 := by omega
            have h2 : ¬ 2147483647 < c' := by omega
            rw [HS]; unfold stp okN; simp [h1, h2])
          clear HS
          have hbad1 : ¬ c' < 0 := by omega
          have hbad2 : ¬ 2147483647 < c' := by omega
          go_wp2_with fail
          refine HC.out.mono ?_
          rintro e w4 ⟨rfl, rfl⟩
          go_wp2_with fail
          go_roundg (s.length - (k + 1))
          case measure => omega
          case rel => exact ⟨k + 1, fi', a', b', 0, bo', B', m', by omega, Nat.le_refl _, hf, HS2, Lib.hid (HXn.out.s6 0), Lib.hid ((blk_far (by omega) _).trans HIn.out), Lib.hid (HBn.out.setCell (Nat.le_refl _) _)⟩
    · obtain rfl : k = s.length := by omega
      have HN := fun ty => Lib.run_next_end_at (P := Tryd.prog) wr w2.heap.size ⟨s.toArray⟩ s.length ty HI.out (by simp [ByteArray.size])
      have HS := HR.out.trans (nms_end _ s)
      have c3 := HX.out.c3
      have c4 := HX.out.c4
      have c5 := HX.out.c5
      have c6 := HX.out.c6
      have c7 := HX.out.c7
      unfold zer at HS
      simp only [] at HS
      have HS2 := Lib.hid HS
      clear HS
      have hbz : ((bo'.length : Int) == 0) = decide (bo' = []) := by cases bo' <;> simp <;> omega
      go_wp2_with fail
      all_goals
        go_ret
        exact ⟨ret_of (by rw [HS2.out]; simp [*]), HB.out⟩
end Go.Proofs.YtddakaeacgojmaaDoor.Wr

namespace Go.Proofs.YtddakaeacgojmaaDoor.Wr
set_option linter.unusedVariables false
set_option linter.unusedSimpArgs false
open Go.RowKit
open T L

set_option maxHeartbeats 1000000 in
set_option maxRecDepth 100000 in
theorem check_any (vb lv : Int) (ct : Nat) (fi : List UInt8) (a b c : Int) (bo : List UInt8) (B : Option Addr) (m : Nat) (w : World) (hK : Kt w) (hf : fi.length ≤ maxLen) :
    Calls Tryd.prog 11 #[.agg #[.int .i64 vb, .int .i64 lv, .int .u64 (ct : Int), .string ⟨fi.toArray⟩, .int .i64 a, .int .i64 b, .int .i64 c, .slice B bo.length m]] w
      fun e w' => e = .returned (.int .i64 (chk ⟨vb, lv, ct, fi, a, b, c, bo⟩)) ∧ Below w.heap.size w w' := by
  have HC := Lib.hid (show chk ⟨vb, lv, ct, fi, a, b, c, bo⟩ = if wrd vb = [] ∨ rightB lv = false ∨ nms ⟨vb, lv, ct, fi, a, b, c, bo⟩ = false then 3 else if 32768 < bo.length then 4 else 0 from rfl)
  generalize chk ⟨vb, lv, ct, fi, a, b, c, bo⟩ = res at *
  have HNM := Lib.hid (fun W h => names_any vb lv ct fi a b c bo B m W h hf)
  generalize nms ⟨vb, lv, ct, fi, a, b, c, bo⟩ = nm at *
  obtain ⟨W1, hW1⟩ : ∃ W : World, W = w.alloc (.cells #[.int .i64 vb, .int .i64 lv, .int .u64 (ct : Int), .string ⟨fi.toArray⟩, .int .i64 a, .int .i64 b, .int .i64 c, .slice B bo.length m] 28) := ⟨_, rfl⟩
  have HX : RqAt W1 w.heap.size vb lv ct ⟨fi.toArray⟩ a b c B bo.length m := by rw [hW1]; exact Array.getElem?_push_size
  have HB1 : Below w.heap.size w W1 := by rw [hW1]; exact (Below.refl w.heap.size w).alloc (Nat.le_refl _) _
  have hlt1 : w.heap.size < W1.heap.size := blk_lt HX
  have HK1 := hK.later HB1
  have HW := Lib.hid (word_any vb W1 HK1)
  have HR := Lib.hid (fun W => right_any lv ct W)
  unfold str at HW
  generalize wrd vb = wd at *
  have q0 := HX.c0
  have HX1 := Lib.hid HX
  have HK1 := Lib.hid HK1
  have HB1 := Lib.hid HB1
  clear HX hK
  go_enter Tryd.func11, Tryd.ntmps11
  go_upto_region 1 with fail
  rw [← hW1]
  clear hW1
  go_wp2_with fail
  refine HW.out.mono ?_
  rintro e w2 ⟨rfl, hb2⟩
  have HX2 := Lib.hid (show RqAt w2 w.heap.size vb lv ct ⟨fi.toArray⟩ a b c B bo.length m from (hb2.block _ hlt1).trans HX1.out)
  have HB2 := Lib.hid (HB1.out.trans (hb2.mono HB1.out.size))
  have HK2 := Lib.hid (HK1.out.later hb2)
  clear hb2 HW HB1 HK1 HX1 q0 hlt1
  have c0 := HX2.out.c0
  have c1 := HX2.out.c1
  have c2 := HX2.out.c2
  have c3 := HX2.out.c3
  have c4 := HX2.out.c4
  have c5 := HX2.out.c5
  have c6 := HX2.out.c6
  have c7 := HX2.out.c7
  by_cases hwd : wd = []
  · have HS := Lib.hid (show res = 3 by rw [HC.out, if_pos (.inl hwd)])
    subst hwd
    clear HC HNM
    go_wp2_with fail
    go_ret
    exact ⟨ret_of (by rw [HS.out]; rfl), HB2.out⟩
  · have hwe : wd.isEmpty = false := by cases wd with
      | nil => exact absurd rfl hwd
      | cons x l => rfl
    have hltb : w.heap.size < w2.heap.size := blk_lt HX2.out
    cases hr : rightB lv with
    | false =>
      have HS := Lib.hid (show res = 3 by rw [HC.out, if_pos (.inr (.inl hr))])
      rw [hr] at HR
      clear HC HNM
      go_wp2_with fail
      refine (HR.out _).mono ?_
      rintro e w3 ⟨rfl, hb3⟩
      go_wp2_with fail
      go_ret
      exact ⟨ret_of (by rw [HS.out]; rfl), HB2.out.trans (hb3.mono HB2.out.size)⟩
    | true =>
      rw [hr] at HR
      go_wp2_with fail
      refine (HR.out _).mono ?_
      rintro e w3 ⟨rfl, hb3⟩
      have HX3 := Lib.hid (show RqAt w3 w.heap.size vb lv ct ⟨fi.toArray⟩ a b c B bo.length m from (hb3.block _ hltb).trans HX2.out)
      have HB3 := Lib.hid (HB2.out.trans (hb3.mono HB2.out.size))
      have HK3 := Lib.hid (HK2.out.later hb3)
      clear hb3 HR HB2 HK2 HX2 c0 c1 c2 c3 c4 c5 c6 c7 hltb
      have hltb : w.heap.size < w3.heap.size := blk_lt HX3.out
      have c0 := HX3.out.c0
      have c1 := HX3.out.c1
      have c2 := HX3.out.c2
      have c3 := HX3.out.c3
      have c4 := HX3.out.c4
      have c5 := HX3.out.c5
      have c6 := HX3.out.c6
      have c7 := HX3.out.c7
      cases hnm : nm with
      | false =>
        have HS := Lib.hid (show res = 3 by rw [HC.out, if_pos (.inr (.inr hnm))])
        rw [hnm] at HNM
        clear HC
        go_wp2_with fail
        refine (HNM.out _ HK3.out).mono ?_
        rintro e w4 ⟨rfl, hb4⟩
        go_wp2_with fail
        go_ret
        exact ⟨ret_of (by rw [HS.out]; rfl), HB3.out.trans (hb4.mono HB3.out.size)⟩
      | true =>
        rw [hnm] at HNM
        have HS0 : res = if 32768 < bo.length then 4 else 0 := by
          rw [HC.out, if_neg (by rw [hr, hnm]; simp [hwd])]
        clear HC
        by_cases hl : 32768 < bo.length
        · have HS := Lib.hid (show res = 4 by rw [HS0, if_pos hl])
          clear HS0
          go_wp2_with fail
          refine (HNM.out _ HK3.out).mono ?_
          rintro e w4 ⟨rfl, hb4⟩
          have d7 := (show RqAt w4 w.heap.size vb lv ct ⟨fi.toArray⟩ a b c B bo.length m from (hb4.block _ hltb).trans HX3.out).c7
          clear c0 c1 c2 c3 c4 c5 c6 c7
          go_wp2_with fail
          go_ret
          exact ⟨ret_of (by rw [HS.out]; rfl), HB3.out.trans (hb4.mono HB3.out.size)⟩
        · have HS := Lib.hid (show res = 0 by rw [HS0, if_neg hl])
          clear HS0
          go_wp2_with fail
          refine (HNM.out _ HK3.out).mono ?_
          rintro e w4 ⟨rfl, hb4⟩
          have d7 := (show RqAt w4 w.heap.size vb lv ct ⟨fi.toArray⟩ a b c B bo.length m from (hb4.block _ hltb).trans HX3.out).c7
          clear c0 c1 c2 c3 c4 c5 c6 c7
          go_wp2_with fail
          go_ret
          exact ⟨ret_of (by rw [HS.out]; rfl), HB3.out.trans (hb4.mono HB3.out.size)⟩

theorem fill_f (g : Nat) (x y : ByteArray) (W : World) (h0 : W.cell? ⟨g, 3, none⟩ = some (.string y)) (h1 : W.frozen? ⟨g, 3, none⟩ = false) :
    Calls Tryd.prog 52 #[.pointer (some ⟨g, 0, none⟩), .int .i32 70, .string x] W fun e w' => e = .returned (.bool true) ∧ w' = W.setCell ⟨g, 3, none⟩ (.string x) := by
  go_enter Tryd.func52, Tryd.ntmps52
  go_wp2_with fail
  go_ret
  exact ⟨ret_of rfl, rfl⟩
theorem fill_n (g o : Nat) (ch : Int) (hch : ¬ ch = 70) (x : ByteArray) (n y : Int) (ok : Bool) (W : World) (h0 : W.cell? ⟨g, o, none⟩ = some (.int .i64 y)) (h1 : W.frozen? ⟨g, o, none⟩ = false)
    (HC : Hid (Calls Tryd.prog 44 #[.pointer (some ⟨g, 0, none⟩), .int .i32 ch] W fun e w' => e = .returned (.pointer (some ⟨g, o, none⟩)) ∧ w' = W))
    (HN : Hid (Calls Tryd.prog 67 #[.string x] W fun e w' => e = .returned (.tuple #[.int .i64 n, .bool ok]) ∧ W = w')) :
    Calls Tryd.prog 52 #[.pointer (some ⟨g, 0, none⟩), .int .i32 ch, .string x] W fun e w' => e = .returned (.bool ok) ∧ w' = W.setCell ⟨g, o, none⟩ (.int .i64 n) := by
  go_enter Tryd.func52, Tryd.ntmps52
  go_wp2_with fail
  refine HN.out.mono ?_
  rintro e w1 ⟨rfl, rfl⟩
  go_wp2_with fail
  refine HC.out.mono ?_
  rintro e w1 ⟨rfl, rfl⟩
  go_wp2_with fail
  go_ret
  exact ⟨ret_of rfl, rfl⟩
end Go.Proofs.YtddakaeacgojmaaDoor.Wr

namespace Go.Proofs.YtddakaeacgojmaaDoor.T
open Go.RowKit

/-- A row of bytes in memory: the cells from an address on hold the bytes of a list. -/
def BytesAt (w : World) (bk off : Nat) (l : List UInt8) : Prop := ∀ j (h : j < l.length), w.cell? ⟨bk, off + j, none⟩ = some (.int .u8 (l[j].toNat : Int))
theorem BytesAt.below {w w' : World} {bk off B : Nat} {l : List UInt8} (h : BytesAt w bk off l) (hb : Below B w w') (hB : bk < B) : BytesAt w' bk off l :=
  fun j hj => (hb.cell (p := ⟨bk, off + j, none⟩) hB).trans (h j hj)
theorem BytesAt.sub {w : World} {bk off i n : Nat} {l : List UInt8} (h : BytesAt w bk off l) : BytesAt w bk (off + i) ((l.drop i).take n) := by
  intro j hj
  have hj' : j < n ∧ j < l.length - i := by simp at hj; omega
  have := h (i + j) (by omega)
  rw [Nat.add_assoc]
  simpa using this

theorem strOfNums_bytes (m : List UInt8) : strOfNums (m.map fun c => (c.toNat : Int)) = ⟨m.toArray⟩ := by
  unfold strOfNums
  congr 1
  congr 1
  rw [List.map_map]
  conv => rhs; rw [← List.map_id m]
  exact List.map_congr_left fun c _ => by simp
theorem conv_bytes (w : World) (bk off len cap : Nat) (m : List UInt8) (hlen : m.length = len) (h : BytesAt w bk off m) :
    (convert 26 9 (.slice (some ⟨bk, off, none⟩) len cap)).run Tryd.prog w = .ok (.string ⟨m.toArray⟩) w := by
  have hc := run_convert_bytes_arg (P := Tryd.prog) w 26 5 Tryd.underlying26 Tryd.underlying5 bk off len cap (m.map fun c => (c.toNat : Int)) (by simpa using hlen)
    (fun i hi => by
      have hi' : i < m.length := by omega
      rw [h i hi']
      simp [List.getElem?_eq_getElem hi']) 9 Tryd.underlying9
  rw [hc, strOfNums_bytes]

set_option maxRecDepth 100000 in
theorem cut_any (bk off cap i j : Nat) (l : List UInt8) (w : World) (h : BytesAt w bk off l) (hij : i ≤ j) (hj : j ≤ l.length) (hn : l.length ≤ cap) :
    Calls Tryd.prog 53 #[.slice (some ⟨bk, off, none⟩) l.length cap, .int .i64 i, .int .i64 j] w fun e w' => e = .returned (.string ⟨((l.drop i).take (j - i)).toArray⟩) ∧ w = w' := by
  obtain ⟨n, hnl⟩ : ∃ n, n = l.length := ⟨_, rfl⟩
  rw [← hnl] at hj hn ⊢
  by_cases e : j = i
  · subst e
    have hcv := conv_bytes w bk off 0 0 [] rfl (fun j hj => absurd hj (by simp))
    have He := Lib.hid (show (l.drop j).take (j - j) = [] by simp)
    clear hnl h hij
    go_enter Tryd.func53, Tryd.ntmps53
    go_wp2
    go_ret
    exact ⟨ret_of (by rw [He.out]; rfl), rfl⟩
  · have hcv := conv_bytes w bk (off + i) (j - i) (j - i) ((l.drop i).take (j - i)) (by simp; omega) h.sub
    generalize (l.drop i).take (j - i) = m at hcv ⊢
    clear hnl h
    go_enter Tryd.func53, Tryd.ntmps53
    go_wp2
    go_ret
    exact ⟨rfl, rfl⟩
end Go.Proofs.YtddakaeacgojmaaDoor.T

namespace Go.Proofs.YtddakaeacgojmaaDoor.T
open Go.RowKit

/-- The cells of lines: each a text and whether it is bare. -/
def lineCells (xs : List (List UInt8 × Bool)) : List Value := xs.flatMap fun x => [.string ⟨x.1.toArray⟩, .bool x.2]
theorem lineCells_snoc (xs : List (List UInt8 × Bool)) (t : List UInt8) (b : Bool) : lineCells (xs ++ [(t, b)]) = lineCells xs ++ [.string ⟨t.toArray⟩, .bool b] := by simp [lineCells]
theorem lineCells_length (xs : List (List UInt8 × Bool)) : (lineCells xs).length = xs.length * 2 := by
  induction xs with
  | nil => rfl
  | cons x r ih => simp [lineCells] at ih ⊢; omega
theorem lines_at {l : List UInt8} {i j : Nat} (hj : j < l.length) (h : l[j].toNat = 10) :
    P.lines ((l.drop i).take (j - i)) (l.drop j) = ((l.drop i).take (j - i), false) :: P.lines [] (l.drop (j + 1)) := by
  rw [List.drop_eq_getElem_cons hj, P.lines, if_pos (UInt8.toNat_inj.1 h)]
theorem lines_on {l : List UInt8} {i j : Nat} (hij : i ≤ j) (hj : j < l.length) (h : ¬ l[j].toNat = 10) :
    P.lines ((l.drop i).take (j - i)) (l.drop j) = P.lines ((l.drop i).take (j + 1 - i)) (l.drop (j + 1)) := by
  rw [List.drop_eq_getElem_cons hj, P.lines, if_neg (fun e => h (by rw [e]; rfl))]
  congr 1
  rw [show j + 1 - i = (j - i) + 1 by omega, List.take_succ_eq_append_getElem (by simp; omega)]
  simp [show i + (j - i) = j by omega]
theorem lines_end {l : List UInt8} {i : Nat} (hi : i < l.length) : P.lines ((l.drop i).take (l.length - i)) (l.drop l.length) = [((l.drop i).take (l.length - i), true)] := by
  rw [List.drop_length, P.lines, if_neg]
  intro e
  have := congrArg List.length e
  simp at this; omega

/-- The cells of texts. -/
def strCells (xs : List (List UInt8)) : List Value := xs.map fun x => .string ⟨x.toArray⟩
theorem strCells_snoc (xs : List (List UInt8)) (t : List UInt8) : strCells (xs ++ [t]) = strCells xs ++ [.string ⟨t.toArray⟩] := by simp [strCells]

theorem words_at {l : List UInt8} {i j : Nat} (hj : j < l.length) (h : l[j].toNat = 32) :
    P.words ((l.drop i).take (j - i)) (l.drop j) = (l.drop i).take (j - i) :: P.words [] (l.drop (j + 1)) := by
  rw [List.drop_eq_getElem_cons hj, P.words, if_pos (UInt8.toNat_inj.1 h)]
theorem words_on {l : List UInt8} {i j : Nat} (hij : i ≤ j) (hj : j < l.length) (h : ¬ l[j].toNat = 32) :
    P.words ((l.drop i).take (j - i)) (l.drop j) = P.words ((l.drop i).take (j + 1 - i)) (l.drop (j + 1)) := by
  rw [List.drop_eq_getElem_cons hj, P.words, if_neg (fun e => h (by rw [e]; rfl))]
  congr 1
  rw [show j + 1 - i = (j - i) + 1 by omega, List.take_succ_eq_append_getElem (by simp; omega)]
  simp [show i + (j - i) = j by omega]
theorem words_end {l : List UInt8} {i : Nat} : P.words ((l.drop i).take (l.length - i)) (l.drop l.length) = [(l.drop i).take (l.length - i)] := by
  rw [List.drop_length, P.words]

/-- A text as bytes: a new row that holds them. -/
theorem conv_str (s : ByteArray) (w : World) : ∃ (cap : Nat) (w1 : World), (convert 9 26 (.string s)).run Tryd.prog w = .ok (.slice (some ⟨w.heap.size, 0, none⟩) s.size cap) w1 ∧ Below w.heap.size w w1 ∧ w.heap.size < w1.heap.size ∧ s.size ≤ cap ∧ BytesAt w1 w.heap.size 0 s.data.toList := by
  refine ⟨_, _, Lib.run_convert_string_bytes w 9 26 5 s Tryd.underlying9 Tryd.underlying26 Tryd.underlying5, ⟨rfl, rfl, rfl, ?_, fun k hk => Lib.bytesWorld_at_old w _ s k hk⟩, ?_, grownCap_ge _ _ _ _, ?_⟩
  · rw [Lib.bytesWorld_size]; omega
  · rw [Lib.bytesWorld_size]; omega
  · intro j hj
    have hj' : j < s.size := by rw [Lib.size_eq]; exact hj
    rw [Nat.zero_add, Lib.bytesWorld_cell w _ s j hj']
    simp [List.getElem?_eq_getElem hj]

set_option maxHeartbeats 400000 in
set_option maxRecDepth 100000 in
theorem words_any (s : ByteArray) (w : World) (hl : s.size ≤ 4194304) :
    Calls Tryd.prog 35 #[.string s] w fun e w' => ∃ v, e = .returned v ∧ w'.ownsRow w.heap.size 9 1 v (P.words [] s.data.toList).length (strCells (P.words [] s.data.toList)) ∧ Below w.heap.size w w' := by
  obtain ⟨i0, hi0, hz0, hz1, hz2⟩ := info_parts infoStr
  obtain ⟨cap, w1, hcv, hb1, hs1, hcap, hby⟩ := conv_str s w
  rw [Lib.size_eq] at hl hcap hcv
  generalize s.data.toList = l at *
  have HY := Lib.hid hby
  clear hby
  go_enter Tryd.func35, Tryd.ntmps35
  go_wp2_with fail
  clear hcv
  go_loopg [4, 5, 11] l.length (fun k v fr jj wr => ∃ (i j : Nat) (xs : List (List UInt8)), i ≤ j ∧ j ≤ l.length ∧ fr = .int .i64 i ∧ jj = .int .i64 j ∧ l.length - j ≤ k ∧ xs.length ≤ i ∧ wr.ownsRow (w.heap.size + 1) 9 1 v xs.length (strCells xs) ∧ Below w.heap.size w wr ∧ Below (w.heap.size + 1) w1 wr ∧ Hid (P.words [] l = xs ++ P.words ((l.drop i).take (j - i)) (l.drop j)))
  case atStart => exact ⟨0, 0, [], Nat.le_refl _, Nat.zero_le _, rfl, rfl, by omega, by simp, ⟨by simp [strCells], .inl ⟨rfl, rfl⟩⟩, hb1, Below.refl _ _, Lib.hid (by simp)⟩
  case round =>
    obtain ⟨i, j, xs, hij, hj, rfl, rfl, hk, hxs, hown, hbel, hbw, HR⟩ := hrel
    have HB := Lib.hid (HY.out.below hbw (by omega))
    by_cases hlt : j < l.length
    · have hcell := HB.out j hlt
      rw [Nat.zero_add] at hcell
      have hwr : w.heap.size + 1 ≤ wr.heap.size := by have := hbw.size; omega
      by_cases h32 : (l[j].toNat : Int) = 32
      · have hb32 : ((l[j].toNat : Int) == 32) = true := by simp [h32]
        have Hat := Lib.hid (words_at (i := i) hlt (by omega))
        clear h32
        go_wp2_with fail
        with_reducible refine (cut_any w.heap.size 0 cap i j l _ HB.out hij hj hcap).mono ?_
        rintro e w' ⟨rfl, rfl⟩
        generalize (l.drop i).take (j - i) = m at *
        go_wp2_with (at_builtin; refine wpList_append_own _ rfl (.tmp 19) (.tmp 24) 60 rfl (w.heap.size + 1) 9 i0 _ 1 16 Tryd.underlying60 hi0 hz0 hz1 hz2 rfl (by decide) _ xs.length (strCells xs) rfl (hown.alloc _) ⟨wr.heap.size, 0, none⟩ 1 1 [.string ⟨m.toArray⟩] rfl rfl ?c1 ?c2 ?c3 ?c4 ?c5 ?_)
        case c1 => exact cell_one_new _ _ _
        case c2 => intro u hu; simp at hu; rcases hu with rfl; rfl
        case c3 => simp only [maxLen]; omega
        case c4 => omega
        case c5 => simp; omega
        intro v' w2 hown1 hg1 _
        have hbel1 : Below w.heap.size w w2 := (hbel.alloc hbel.size _).grown hg1 (by simp; omega) (fun k hk => by have := own_base hown k hk; omega)
        have hbw1 : Below (w.heap.size + 1) w1 w2 := (hbw.alloc hwr _).grown hg1 (by simp; omega) (own_base hown)
        rw [← strCells_snoc] at hown1
        have hl1 : (xs ++ [m]).length = xs.length + 1 := by simp
        rw [← hl1] at hown1
        have HR1 := Lib.hid (HR.out.trans (by rw [Hat.out] : _ = xs ++ m :: P.words [] (l.drop (j + 1))))
        clear hl1 hown HB hcell
        go_wp2_with fail
        go_roundg (l.length - (j + 1))
        case rel => exact ⟨j + 1, j + 1, xs ++ [m], by omega, by omega, by go_num, by go_num, Nat.le_refl _, by simp; omega, hown1, hbel1, hbw1, Lib.hid (by rw [HR1.out]; simp)⟩
        case measure => omega
      · have hb32 : ((l[j].toNat : Int) == 32) = false := by simp [h32]
        have Hon := Lib.hid (words_on hij hlt (fun e => h32 (by omega)))
        clear h32
        go_wp2_with fail
        go_roundg (l.length - (j + 1))
        case rel => exact ⟨i, j + 1, xs, by omega, by omega, rfl, by go_num, Nat.le_refl _, hxs, hown, hbel, hbw, Lib.hid (by rw [HR.out, Hon.out])⟩
        case measure => omega
    · have HE := Lib.hid (show P.words [] l = xs ++ [(l.drop i).take (l.length - i)] by
        have := HR.out
        rw [show j = l.length by omega] at this
        rw [this, words_end])
      have hwr : w.heap.size + 1 ≤ wr.heap.size := by have := hbw.size; omega
      go_wp2_with fail
      with_reducible refine (cut_any w.heap.size 0 cap i l.length l _ HB.out (by omega) (Nat.le_refl _) hcap).mono ?_
      rintro e w' ⟨rfl, rfl⟩
      generalize (l.drop i).take (l.length - i) = m at *
      go_wp2_with (at_builtin; refine wpList_append_own _ rfl (.tmp 29) (.tmp 35) 60 rfl (w.heap.size + 1) 9 i0 _ 1 16 Tryd.underlying60 hi0 hz0 hz1 hz2 rfl (by decide) _ xs.length (strCells xs) rfl (hown.alloc _) ⟨wr.heap.size, 0, none⟩ 1 1 [.string ⟨m.toArray⟩] rfl rfl ?c1 ?c2 ?c3 ?c4 ?c5 ?_)
      case c1 => exact cell_one_new _ _ _
      case c2 => intro u hu; simp at hu; rcases hu with rfl; rfl
      case c3 => simp only [maxLen]; omega
      case c4 => omega
      case c5 => simp; omega
      intro v' w2 hown1 hg1 _
      have hbel1 : Below w.heap.size w w2 := (hbel.alloc hbel.size _).grown hg1 (by simp; omega) (fun k hk => by have := own_base hown k hk; omega)
      rw [← strCells_snoc] at hown1
      have hl1 : (xs ++ [m]).length = xs.length + 1 := by simp
      rw [← hl1] at hown1
      have hown2 := own_more hown1 (Nat.le_succ w.heap.size)
      clear hl1 hown HB hown1
      go_wp2_with fail
      go_ret
      exact ⟨_, rfl, by rw [HE.out]; exact hown2, hbel1⟩
end Go.Proofs.YtddakaeacgojmaaDoor.T

namespace Go.Proofs.YtddakaeacgojmaaDoor.P

/-- The bytes of lines. -/
def join : List (List UInt8 × Bool) → List UInt8
  | [] => []
  | (t, b) :: r => t ++ (if !b || !r.isEmpty then [10] else []) ++ join r
/-- May lines be those of bytes? -/
def right : List (List UInt8 × Bool) → Bool
  | [] => true
  | (t, b) :: r => !(t.contains 10) && !(b && (!r.isEmpty || t.isEmpty)) && right r

theorem join_lines : ∀ (l cur : List UInt8), join (lines cur l) = cur ++ l
  | [], cur => by
    rw [lines]
    split
    · next h => simp [h, join]
    · simp [join]
  | c :: r, cur => by
    rw [lines]
    split
    · next h => rw [join, join_lines r [], h]; simp
    · rw [join_lines r (cur ++ [c])]; simp
theorem right_lines : ∀ (l cur : List UInt8), (10 : UInt8) ∉ cur → right (lines cur l) = true
  | [], cur, h => by
    rw [lines]
    split
    · rfl
    · next hc => simp [right, h, hc]
  | c :: r, cur, h => by
    rw [lines]
    split
    · rw [right, right_lines r [] (by simp)]; simp [h]
    · next hc => exact right_lines r (cur ++ [c]) (by simp [h]; exact fun e => hc e.symm)
theorem lines_text (r : List UInt8) : ∀ (t cur : List UInt8), (10 : UInt8) ∉ t → lines cur (t ++ 10 :: r) = (cur ++ t, false) :: lines [] r
  | [], cur, _ => by simp [lines]
  | c :: t, cur, h => by
    have hc : ¬ c = 10 := fun e => h (by simp [e])
    rw [List.cons_append, lines, if_neg hc, lines_text r t _ (fun e => h (by simp [e]))]; simp
theorem lines_open : ∀ (t cur : List UInt8), (10 : UInt8) ∉ t → lines cur t = if cur ++ t = [] then [] else [(cur ++ t, true)]
  | [], cur, _ => by simp [lines]
  | c :: t, cur, h => by
    have hc : ¬ c = 10 := fun e => h (by simp [e])
    rw [lines, if_neg hc, lines_open t _ (fun e => h (by simp [e]))]; simp
theorem lines_join : ∀ (xs : List (List UInt8 × Bool)), right xs = true → lines [] (join xs) = xs
  | [], _ => rfl
  | (t, b) :: r, h => by
    rw [right, Bool.and_eq_true, Bool.and_eq_true] at h
    obtain ⟨⟨h1, h2⟩, h3⟩ := h
    have ht : (10 : UInt8) ∉ t := by simpa using h1
    have ih := lines_join r h3
    cases b with
    | false =>
      rw [join, show t ++ (if !false || !r.isEmpty then [10] else []) ++ join r = t ++ 10 :: join r by simp, lines_text _ _ _ ht, ih]; rfl
    | true =>
      simp at h2
      obtain ⟨h2, h4⟩ := h2
      subst h2
      rw [join, show t ++ (if !true || !([] : List (List UInt8 × Bool)).isEmpty then [10] else []) ++ join [] = t by simp [join], lines_open _ _ ht, if_neg (by simpa using h4)]; rfl
/-- How many bytes lines make at the most. -/
def bulk : List (List UInt8 × Bool) → Nat
  | [] => 0
  | (t, _) :: r => t.length + 1 + bulk r
theorem join_length : ∀ xs : List (List UInt8 × Bool), (join xs).length ≤ bulk xs
  | [] => Nat.le_refl _
  | (t, b) :: r => by
    have := join_length r
    rw [join, bulk]
    simp only [List.length_append]
    split <;> simp <;> omega
theorem length_bulk : ∀ xs : List (List UInt8 × Bool), xs.length ≤ bulk xs
  | [] => Nat.le_refl _
  | (t, b) :: r => by have := length_bulk r; rw [bulk, List.length_cons]; omega
theorem lines_bulk : ∀ (l cur : List UInt8), bulk (lines cur l) ≤ cur.length + l.length + 1
  | [], cur => by
    rw [lines]
    split
    · simp [bulk]
    · simp [bulk]
  | c :: r, cur => by
    rw [lines]
    split
    · rw [bulk]
      match r with
      | [] => simp [lines, bulk]
      | d :: r' => have := lines_bulk (d :: r') []; simp at this ⊢; omega
    · have := lines_bulk r (cur ++ [c]); simp at this ⊢; omega
end Go.Proofs.YtddakaeacgojmaaDoor.P

namespace Go.Proofs.YtddakaeacgojmaaDoor.T
open Go.RowKit

theorem own_form {w : World} {base : Nat} {e : TypeId} {size n : Nat} {v : Value} {xs : List Value} (h : w.ownsRow base e size v n xs) :
    ∃ A cap, v = .slice A n cap ∧ n ≤ cap ∧ (0 < n → ∃ g, A = some ⟨g, 0, none⟩ ∧ base ≤ g ∧ g < w.heap.size ∧ ∀ j u, xs[j]? = some u → w.cell? ⟨g, j, none⟩ = some u) := by
  rcases h.2 with ⟨rfl, rfl⟩ | ⟨g, cap, cur, rfl, hg, hh, hnc, _, _, hx⟩
  · exact ⟨none, 0, rfl, Nat.le_refl _, fun h => absurd h (by omega)⟩
  · refine ⟨_, cap, rfl, hnc, fun _ => ⟨g, rfl, hg, ?_, fun j u hu => ?_⟩⟩
    · rcases Nat.lt_or_ge g w.heap.size with hlt | hge
      · exact hlt
      · rw [Array.getElem?_eq_none hge] at hh; cases hh
    · rw [← hx] at hu
      have hu' : cur.toList[j]? = some u := by
        rw [List.getElem?_take] at hu
        split at hu
        · exact hu
        · cases hu
      simp [World.cell?, hh]
      simpa using hu'
end Go.Proofs.YtddakaeacgojmaaDoor.T

namespace Go.Proofs.YtddakaeacgojmaaDoor.T
open Go.RowKit

/-- Lines in memory: two cells each, from an address on. -/
def LinesAt (w : World) (bk off : Nat) (xs : List (List UInt8 × Bool)) : Prop :=
  ∀ j (h : j < xs.length), w.cell? ⟨bk, off + j * 2, none⟩ = some (.string ⟨xs[j].1.toArray⟩) ∧ w.cell? ⟨bk, off + j * 2 + 1, none⟩ = some (.bool xs[j].2)
/-- A slice's lines, wherever it lies. -/
def LinesIn (w : World) (A : Option Addr) (xs : List (List UInt8 × Bool)) : Prop :=
  0 < xs.length → ∃ bk off, A = some ⟨bk, off, none⟩ ∧ bk < w.heap.size ∧ LinesAt w bk off xs
theorem LinesAt.below {w w' : World} {bk off B : Nat} {xs : List (List UInt8 × Bool)} (h : LinesAt w bk off xs) (hb : Below B w w') (hB : bk < B) : LinesAt w' bk off xs :=
  fun j hj => ⟨(hb.cell (p := ⟨bk, off + j * 2, none⟩) hB).trans (h j hj).1, (hb.cell (p := ⟨bk, off + j * 2 + 1, none⟩) hB).trans (h j hj).2⟩
theorem LinesIn.below {w w' : World} {A : Option Addr} {xs : List (List UInt8 × Bool)} (h : LinesIn w A xs) (hb : Below w.heap.size w w') : LinesIn w' A xs := fun hp => by
  obtain ⟨bk, off, e, hlt, hl⟩ := h hp
  exact ⟨bk, off, e, Nat.lt_of_lt_of_le hlt hb.size, hl.below hb hlt⟩
theorem lineCells_at : ∀ (xs : List (List UInt8 × Bool)) (j : Nat) (h : j < xs.length), (lineCells xs)[j * 2]? = some (.string ⟨xs[j].1.toArray⟩) ∧ (lineCells xs)[j * 2 + 1]? = some (.bool xs[j].2)
  | x :: r, 0, _ => by simp [lineCells]
  | x :: r, j + 1, h => by
    have ih := lineCells_at r j (by simpa using h)
    have e : lineCells (x :: r) = .string ⟨x.1.toArray⟩ :: .bool x.2 :: lineCells r := by simp [lineCells]
    rw [e, show (j + 1) * 2 = j * 2 + 1 + 1 by omega]
    simpa using ih
theorem drop_line {xs : List (List UInt8 × Bool)} {k : Nat} (hk : k < xs.length) : xs.drop k = (xs[k].1, xs[k].2) :: xs.drop (k + 1) := List.drop_eq_getElem_cons hk
theorem text_len {xs : List (List UInt8 × Bool)} {k : Nat} (hk : k < xs.length) : xs[k].1.length + 1 ≤ P.bulk xs := by
  induction xs generalizing k with
  | nil => simp at hk
  | cons x r ih =>
    obtain ⟨t, b⟩ := x
    cases k with
    | zero => simp [P.bulk]
    | succ k => have := ih (k := k) (by simpa using hk); rw [P.bulk]; simp; omega
end Go.Proofs.YtddakaeacgojmaaDoor.T
