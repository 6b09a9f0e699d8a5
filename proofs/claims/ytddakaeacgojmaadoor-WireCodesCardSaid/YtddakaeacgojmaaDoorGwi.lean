/-
  Layer 21: bytes appended to a text's bytes; Answer.
  Layer 21: Answer.
  Layer 21: live.
-/
import Derived.Test.YtddakaeacgojmaaDoorGwh
import Derived.ArgAppend
import Derived.Lib.SmallJoins
namespace Go.Proofs.YtddakaeacgojmaaDoor.Wr
set_option linter.unusedVariables false
set_option linter.unusedSimpArgs false
open Go.RowKit
open T L

/-- What append makes of a text's bytes and of further bytes. -/
structure App (W : World) (xs : List UInt8) (w' : World) (v : Value) : Prop where
  v : ∃ A c, v = .slice A xs.length c ∧ xs.length ≤ c ∧ BytesIn w' A xs ∧ (A = none → c = 0)
  b : Below W.heap.size W w'
theorem sc_facts (g : Nat) : ∀ (vs : List Value) (o : Nat) (w : World), (w.setCells g o vs).os = w.os ∧ (w.setCells g o vs).tape = w.tape ∧ (w.setCells g o vs).output = w.output ∧ (w.setCells g o vs).heap.size = w.heap.size ∧ ∀ i, i ≠ g → (w.setCells g o vs).heap[i]? = w.heap[i]?
  | [], _, _ => ⟨rfl, rfl, rfl, rfl, fun _ _ => rfl⟩
  | v :: r, o, w => by
    obtain ⟨h1, h2, h3, h4, h5⟩ := sc_facts g r (o + 1) (w.setCell ⟨g, o, none⟩ v)
    refine ⟨h1.trans rfl, h2.trans rfl, h3.trans rfl, h4.trans (by simp), fun i hi => (h5 i hi).trans (blk_far hi _)⟩
theorem app_nothing (w : World) (g n cap : Nat) (A : Option Addr) (c : Nat) (ty : TypeId) (h : n ≤ cap) :
    (Builtin.append_ #[26, 26] ty #[.slice (some ⟨g, 0, none⟩) n cap, .slice A 0 c]).run Tryd.prog w = .ok (.slice (some ⟨g, 0, none⟩) n cap) w := by
  have h2 : (n : Int) ≤ (cap : Int) := by omega
  cases A with
  | none => go_simp; try simp [storeCells, go_sem]
  | some b => go_simp; try simp [storeCells, go_sem]
theorem run_app_conv (W : World) (s : ByteArray) (A : Option Addr) (c : Nat) (zs : List UInt8) (ty : TypeId) (hA : BytesIn W A zs) (hl : s.data.toList.length + zs.length ≤ 140737488355328) :
    ∃ v' w', (Builtin.append_ #[26, 26] ty #[.slice (some ⟨W.heap.size, 0, none⟩) s.size (grownCap W s.size 0 5), .slice A zs.length c]).run Tryd.prog (Lib.bytesWorld W 5 s) = .ok v' w' ∧ App W (s.data.toList ++ zs) w' v' := by
  have hbw : Below W.heap.size W (Lib.bytesWorld W 5 s) := ⟨rfl, rfl, rfl, by rw [Lib.bytesWorld_size]; omega, fun k hk => Lib.bytesWorld_at_old W _ s k hk⟩
  have hsz : (Lib.bytesWorld W 5 s).heap.size = W.heap.size + 1 := Lib.bytesWorld_size W _ s
  have hcap : s.size ≤ grownCap W s.size 0 5 := grownCap_ge _ _ _ _
  have hnew := Lib.bytesWorld_at_new W 5 s
  have hcell : ∀ j, j < s.size → (Lib.bytesWorld W 5 s).cell? ⟨W.heap.size, j, none⟩ = some (.int .u8 (s.data.toList.getD j 0).toNat) := fun j hj => Lib.bytesWorld_cell W 5 s j hj
  have hsl : s.size = s.data.toList.length := Lib.size_eq s
  have hold : ∀ j (h : j < s.data.toList.length), (Lib.bytesWorld W 5 s).cell? ⟨W.heap.size, j, none⟩ = some (.int .u8 (s.data.toList[j].toNat : Int)) := fun j h => by
    rw [hcell j (by omega)]; simp [List.getD, List.getElem?_eq_getElem h]
  have hbc : (Lib.bytesCells W 5 s).size = grownCap W s.size 0 5 := by
    simp only [Lib.bytesCells, Array.size_append, Array.size_map, Array.size_replicate]
    have : s.data.size = s.size := rfl
    omega
  generalize grownCap W s.size 0 5 = cap at *
  have hA2 := hA.below hbw
  have HL := Lib.hid hl
  clear hl
  generalize Lib.bytesWorld W 5 s = w2 at *
  by_cases h0 : zs.length = 0
  · obtain rfl : zs = [] := List.length_eq_zero_iff.1 h0
    refine ⟨.slice (some ⟨W.heap.size, 0, none⟩) s.size cap, w2, ?_, ⟨⟨some ⟨W.heap.size, 0, none⟩, cap, by rw [List.append_nil, hsl], by rw [List.append_nil]; omega, fun _ => ⟨W.heap.size, 0, rfl, by omega, ?_⟩, fun e => by cases e⟩, hbw⟩⟩
    · exact app_nothing w2 W.heap.size s.size cap A c ty hcap
    · rw [List.append_nil]
      intro j hj
      rw [Nat.zero_add]; exact hold j hj
  · obtain ⟨bk, off, rfl, hlt, hat⟩ := hA2 (by omega)
    obtain ⟨i0, hi0, hz0, hz1, hz2⟩ := info_parts infoByte
    have hnews : ∀ j u, (byteCells zs)[j]? = some u → w2.cell? ((⟨bk, off, none⟩ : Addr).add j) = some u := fun j u hu => by
      have hj : j < zs.length := by have := (List.getElem?_eq_some_iff.1 hu).1; rwa [byteCells_length] at this
      rw [show (⟨bk, off, none⟩ : Addr).add j = ⟨bk, off + j, none⟩ by simp [Addr.add], hat j hj, ← hu]
      simp [byteCells, List.getElem?_eq_getElem hj]
    have hone : ∀ u ∈ byteCells zs, u.oneCell' = true := fun u hu => by obtain ⟨c, _, rfl⟩ := List.mem_map.1 hu; rfl
    by_cases hroom : s.size + zs.length ≤ cap
    · have hpl : ∀ j, j < (byteCells zs).length → (w2.cell? ⟨W.heap.size, 0 + s.size * i0.size + j, none⟩).isSome = true ∧ w2.frozen? ⟨W.heap.size, 0 + s.size * i0.size + j, none⟩ = false := fun j hj => by
        rw [byteCells_length] at hj
        rw [hz1, Nat.zero_add, Nat.mul_one]
        refine ⟨?_, ?_⟩
        · rw [cell_of_row w2 _ _ _ _ _ hnew, Array.getElem?_eq_getElem (by omega)]; rfl
        · simp only [World.frozen?, hnew]; simp; omega
      have hr := run_append_room_cells (P := Tryd.prog) w2 26 ty 5 i0 Tryd.underlying26 hi0 W.heap.size 0 s.size cap ⟨bk, off, none⟩ zs.length c (byteCells zs) (by rw [byteCells_length, hz1, Nat.mul_one]) hnews hone hroom (fun j hj => (hpl j hj).1) (fun j hj => (hpl j hj).2)
      rw [hz1, Nat.zero_add, Nat.mul_one] at hr
      have hin := World.cell?_setCells_in W.heap.size (byteCells zs) s.size w2 (fun j hj => by have := (hpl j hj).1; rwa [hz1, Nat.zero_add, Nat.mul_one] at this)
      have hout := World.cell?_setCells_out W.heap.size (byteCells zs) s.size w2
      obtain ⟨f1, f2, f3, f4, f5⟩ := sc_facts W.heap.size (byteCells zs) s.size w2
      refine ⟨_, _, hr, ⟨⟨some ⟨W.heap.size, 0, none⟩, cap, by rw [List.length_append, hsl], by rw [List.length_append]; omega, fun _ => ⟨W.heap.size, 0, rfl, ?_, ?_⟩, fun e => by cases e⟩, ?_⟩⟩
      · rw [f4]; omega
      · intro j hj
        rw [Nat.zero_add]
        rw [List.length_append] at hj
        by_cases h1 : j < s.data.toList.length
        · rw [hout _ (fun _ _ => .inl (by show j < s.size; omega)), hold j h1]
          rw [List.getElem_append_left h1]
        · have := hin (j - s.size) (by rw [byteCells_length]; omega)
          rw [show s.size + (j - s.size) = j by omega] at this
          rw [this]
          simp only [byteCells, List.getElem_map]
          rw [List.getElem_append_right (by omega)]
          simp only [hsl]
      · exact hbw.trans ⟨f1, f2, f3, by omega, fun i hi => f5 i (by omega)⟩
    · obtain ⟨v', w', hr, hown, hg⟩ := run_append_arg_grows (P := Tryd.prog) w2 26 ty 5 i0 _ 1 1 Tryd.underlying26 hi0 hz0 hz1 hz2 rfl (by decide) ⟨W.heap.size, 0, none⟩ s.size cap (byteCells s.data.toList) (by rw [byteCells_length]; omega) (fun j u hu => by
          have hj : j < s.data.toList.length := by have := (List.getElem?_eq_some_iff.1 hu).1; rwa [byteCells_length] at this
          rw [show (⟨W.heap.size, 0, none⟩ : Addr).add j = ⟨W.heap.size, j, none⟩ by unfold Addr.add; split <;> simp_all, hold j hj, ← hu]
          simp [byteCells, List.getElem?_eq_getElem hj]) ⟨bk, off, none⟩ zs.length c (byteCells zs) (by rw [byteCells_length]; omega) hnews (by omega) (by have := HL.out; simp only [maxLen]; omega) (by have := HL.out; omega)
      rw [← byteCells_append, hsl, ← List.length_append] at hown
      obtain ⟨A', c', hv, hc', hA'⟩ := bytes_of_own hown
      refine ⟨v', w', hr, ⟨⟨A', c', hv, hc', hA', fun e => ?_⟩, ?_⟩⟩
      · subst e
        obtain ⟨A1, c1, hv1, _, hA1⟩ := T.own_form hown
        rw [hv] at hv1
        have hnz : 0 < (s.data.toList ++ zs).length := by rw [List.length_append]; omega
        obtain ⟨g, hg1, _⟩ := hA1 hnz
        have := (Value.slice.inj hv1).1
        rw [hg1] at this; cases this
      · exact hbw.trans ⟨hg.os, hg.tape, hg.output, by have := hg.size; omega, fun i hi => hg.block i (by omega) (by simp)⟩
end Go.Proofs.YtddakaeacgojmaaDoor.Wr

namespace Go.Proofs.YtddakaeacgojmaaDoor.Wr
set_option linter.unusedVariables false
set_option linter.unusedSimpArgs false
open Go.RowKit
open T L

attribute [-go_sem] Go.Builtin.append_
theorem cat2 {a b : ByteArray} (h : a.data.toList.length + b.data.toList.length ≤ 9223372036854775807) : ∃ z : ByteArray, (∀ w : World, (Op.stringOp .add a b).run Tryd.prog w = .ok (.string z) w) ∧ z.data.toList = a.data.toList ++ b.data.toList :=
  ⟨a ++ b, fun w => run_string_add_sum w a b (by rw [Lib.size_eq, Lib.size_eq]; omega), by simp⟩
/-- The bytes that come back. -/
def BsEnd (l : List UInt8) (e : Ending) (w' : World) : Prop := ∃ A c, e = .returned (.slice A l.length c) ∧ l.length ≤ c ∧ BytesIn w' A l ∧ (A = none → c = 0)
theorem cod_short (e : Int) : (cod e).length ≤ 12 := by
  by_cases h : 0 ≤ e ∧ e < 15
  · obtain ⟨k, rfl⟩ := Int.eq_ofNat_of_zero_le h.1
    rw [cod_at k (by omega)]; exact cds_short _ _
  · rw [cod, if_neg h]; simp
set_option maxHeartbeats 4000000 in
set_option maxRecDepth 100000 in
theorem answer_any (e : Int) (B : Option Addr) (m : Nat) (bo : List UInt8) (w : World) (hK : Kt w) (hB : Bz w B m bo) (hl : bo.length ≤ 70368744177664) :
    Calls Tryd.prog 18 #[.agg #[.int .i64 e, .slice B bo.length m]] w fun x w' => BsEnd (ans e bo) x w' ∧ Below w.heap.size w w' := by
  obtain ⟨z, hz, hzl⟩ := cat2 (a := ⟨(cod e).toArray⟩) (b := ⟨#[10]⟩) (by have := cod_short e; simp; omega)
  have hzl : z.data.toList = cod e ++ [10] := hzl
  obtain ⟨W1, hW1⟩ : ∃ W : World, W = w.alloc (.cells #[.int .i64 e, .slice B bo.length m] 42) := ⟨_, rfl⟩
  have HX : RpAt W1 w.heap.size e B bo.length m := by rw [hW1]; exact Array.getElem?_push_size
  have HB1 : Below w.heap.size w W1 := by rw [hW1]; exact alloc1 _ _
  have c0 := HX.c0
  have c1 := HX.c1
  obtain ⟨v', w', hr, happ⟩ := run_app_conv W1.drew z B m bo 26 ((hB.below HB1).in) (by have := cod_short e; rw [hzl]; simp; omega)
  obtain ⟨⟨A5, c5, rfl, hc5, hA5, hn5⟩, hb5⟩ := happ
  have hcv := Lib.run_convert_string_bytes (P := Tryd.prog) W1.drew 9 26 5 z Tryd.underlying9 Tryd.underlying26 Tryd.underlying5
  have hr : (Builtin.append_ #[26, 26] 26 #[.slice (some ⟨W1.heap.size, 0, none⟩) z.size (grownCap W1.drew z.size 0 5), .slice B bo.length m]).run Tryd.prog (Lib.bytesWorld W1.drew 5 z) = .ok (.slice A5 (z.data.toList ++ bo).length c5) w' := hr
  have hcv : (convert 9 26 (.string z)).run Tryd.prog W1.drew = .ok (.slice (some ⟨W1.heap.size, 0, none⟩) z.size (grownCap W1.drew z.size 0 5)) (Lib.bytesWorld W1.drew 5 z) := hcv
  have c1b : (Lib.bytesWorld W1.drew 5 z).cell? ⟨w.heap.size, 1, none⟩ = some (.slice B bo.length m) := (Lib.bytesWorld_old W1.drew _ z ⟨w.heap.size, 1, none⟩ (blk_lt HX)).trans c1
  generalize Lib.bytesWorld W1.drew 5 z = wb at *
  generalize grownCap W1.drew z.size 0 5 = cp at *
  have hd0 : Below W1.heap.size W1 W1.drew := (Below.refl _ _).drew
  have HC := Lib.hid (fun W (h : Below W1.heap.size W1 W) => code_any e W ((hK.later HB1).later h))
  have HA := Lib.hid (show ans e bo = z.data.toList ++ bo by rw [hzl]; simp [ans])
  have HP := Lib.hid (show (ans e bo).length ≤ c5 ∧ BytesIn w' A5 (ans e bo) ∧ (A5 = none → c5 = 0) by rw [HA.out]; exact ⟨hc5, hA5, hn5⟩)
  have HBB := Lib.hid (show Below w.heap.size w w' from HB1.trans (Below.mono (Below.trans hd0 hb5) HB1.size))
  rw [← HA.out] at hr
  unfold str at HC
  have HD := Lib.hid hd0
  clear hB hl HX hzl hd0 hc5 hA5 hn5 hb5 HA
  generalize (ans e bo) = an at *
  generalize (⟨(cod e).toArray⟩ : ByteArray) = cs at *
  go_enter Tryd.func18, Tryd.ntmps18
  go_upto_region 1 with fail
  rw [← hW1]
  clear hW1
  go_region_with (go_at_call 22; with_reducible refine (HC.out _ HD.out).mono ?_; rintro r wq ⟨rfl, rfl⟩)
  all_goals
    go_wp2_with fail
    go_ret
    exact ⟨⟨A5, c5, ret_of rfl, HP.out.1, HP.out.2.1, HP.out.2.2⟩, HBB.out⟩
end Go.Proofs.YtddakaeacgojmaaDoor.Wr

namespace Go.Proofs.YtddakaeacgojmaaDoor.Wr
set_option linter.unusedVariables false
set_option linter.unusedSimpArgs false
open Go.RowKit
open T L

def lit1 : List UInt8 := [100, 105, 102, 102, 32, 48, 32, 97, 32, 48, 32, 49, 32, 51, 10]
def lit2 : List UInt8 := [115, 117, 98, 109, 105, 116, 32, 49, 58, 50, 32, 98, 32, 52, 10, 120, 121]
def not1 : List UInt8 := [110, 111, 116, 45, 102, 111, 117, 110, 100, 10]
theorem prs1 : prs lit1 = .inl ⟨5, 0, 0, [97], 0, 1, 3, []⟩ := by kernel_rfl
theorem prs2 : prs lit2 = .inl ⟨7, 1, 4, [98], 4, 0, 0, [120, 121]⟩ := by kernel_rfl
theorem ans6 : ans 6 [] = not1 := by kernel_rfl
theorem wrd1 : wrd 1 = [108, 105, 115, 116] := by kernel_rfl
/-- A literal's bytes in a new block. -/
theorem lit_bz (W : World) (l : List UInt8) (cs : Array Value) (n : Nat) (hn : n = l.length) (hcs : cs = (l.map fun c => Value.int .u8 (c.toNat : Int)).toArray) :
    Bz (W.alloc (.cells cs 5 (n, n + 1))) (some ⟨W.heap.size, 0, none⟩) n l := by
  subst hn hcs
  refine ⟨Nat.le_refl _, .inr ⟨W.heap.size, 0, rfl, ?_, fun _ => by simp⟩⟩
  intro j hj
  have hg : (W.alloc (.cells (l.map fun c => Value.int .u8 (c.toNat : Int)).toArray 5 (l.length, l.length + 1))).heap[W.heap.size]? = some (.cells (l.map fun c => Value.int .u8 (c.toNat : Int)).toArray 5 (l.length, l.length + 1)) := Array.getElem?_push_size
  rw [Nat.zero_add, cell_of_row _ _ j _ _ _ hg]
  simp [List.getElem?_eq_getElem hj]
def LvC : Prop := ∀ w : World, Kt w → Tab w → Calls Tryd.prog 10 #[] w fun e w' => e = .returned (.bool true) ∧ Below w.heap.size w w'
theorem LvC.at (h : LvC) {w : World} (hK : Kt w) (hT : Tab w) : Calls Tryd.prog 10 #[] w fun e w' => e = .returned (.bool true) ∧ Below w.heap.size w w' := h w hK hT
set_option maxHeartbeats 8000000 in
set_option maxRecDepth 100000 in
theorem live21 : LvC := fun w hK hT => by
  have kc := fun (w : World) (C : Array Value) (n c : Nat) => Lib.run_convert_bytes_const (P := Tryd.prog) w 26 5 C n c Tryd.underlying26 Tryd.underlying5
  have hb1 : Below w.heap.size w (w.alloc (.cells #[.int .u8 100, .int .u8 105, .int .u8 102, .int .u8 102, .int .u8 32, .int .u8 48, .int .u8 32, .int .u8 97, .int .u8 32, .int .u8 48, .int .u8 32, .int .u8 49, .int .u8 32, .int .u8 51, .int .u8 10] 5 (15, 16))) := alloc1 _ _
  have HP1 := Lib.hid (Wr.parse_any (some ⟨w.heap.size, 0, none⟩) 15 lit1 (w.alloc (.cells #[.int .u8 100, .int .u8 105, .int .u8 102, .int .u8 102, .int .u8 32, .int .u8 48, .int .u8 32, .int .u8 97, .int .u8 32, .int .u8 48, .int .u8 32, .int .u8 49, .int .u8 32, .int .u8 51, .int .u8 10] 5 (15, 16))) (hK.later hb1) (Tab.later hT hb1) (lit_bz w lit1 _ 15 rfl (by kernel_rfl)) (by decide))
  have HB1 := Lib.hid hb1
  have HK := Lib.hid hK
  have HT := Lib.hid hT
  clear hb1 hK hT
  rw [prs1, show lit1.length = 15 from rfl] at HP1
  have HQ1 : Hid (Calls Tryd.prog 15 #[.slice (some ⟨w.heap.size, 0, none⟩) 15 15] (w.alloc (.cells #[.int .u8 100, .int .u8 105, .int .u8 102, .int .u8 102, .int .u8 32, .int .u8 48, .int .u8 32, .int .u8 97, .int .u8 32, .int .u8 48, .int .u8 32, .int .u8 49, .int .u8 32, .int .u8 51, .int .u8 10] 5 (15, 16))) fun e w' => ∃ A1 c1, e = .returned (.tuple #[.agg #[.int .i64 5, .int .i64 0, .int .u64 0, .string ⟨#[97]⟩, .int .i64 0, .int .i64 1, .int .i64 3, .slice A1 0 c1], .int .i64 0]) ∧ Below (w.alloc (.cells #[.int .u8 100, .int .u8 105, .int .u8 102, .int .u8 102, .int .u8 32, .int .u8 48, .int .u8 32, .int .u8 97, .int .u8 32, .int .u8 48, .int .u8 32, .int .u8 49, .int .u8 32, .int .u8 51, .int .u8 10] 5 (15, 16))).heap.size (w.alloc (.cells #[.int .u8 100, .int .u8 105, .int .u8 102, .int .u8 102, .int .u8 32, .int .u8 48, .int .u8 32, .int .u8 97, .int .u8 32, .int .u8 48, .int .u8 32, .int .u8 49, .int .u8 32, .int .u8 51, .int .u8 10] 5 (15, 16))) w') :=
    Lib.hid (HP1.out.mono fun e w' h => by obtain ⟨⟨A, c, h1, -⟩, h3⟩ := h; exact ⟨A, c, h1, h3⟩)
  clear HP1
  go_enter Tryd.func10, Tryd.ntmps10
  go_wp2_with fail
  refine HQ1.out.mono ?_
  rintro e w2 ⟨A1, c1, rfl, hb2⟩
  have HB2 := Lib.hid (HB1.out.trans (hb2.mono HB1.out.size))
  clear HQ1 HB1 hb2
  obtain ⟨w3, hw3⟩ : ∃ W : World, W = w2.alloc (.cells #[.int .i64 5, .int .i64 0, .int .u64 0, .string ⟨#[97]⟩, .int .i64 0, .int .i64 1, .int .i64 3, .slice A1 0 c1] 28) := ⟨_, rfl⟩
  have h23 : Below w2.heap.size w2 w3 := by rw [hw3]; exact alloc1 _ _
  have HG1 := Lib.hid (show RqAt w3 w2.heap.size 5 0 0 ⟨#[97]⟩ 0 1 3 A1 0 c1 by rw [hw3]; exact Array.getElem?_push_size)
  have HB3 := Lib.hid (HB2.out.trans (h23.mono HB2.out.size))
  obtain ⟨g1, hg1⟩ : ∃ q, q = w2.heap.size := ⟨_, rfl⟩
  rw [← hg1] at HG1
  have hb3 : Below w3.heap.size w3 (w3.alloc (.cells #[.int .u8 115, .int .u8 117, .int .u8 98, .int .u8 109, .int .u8 105, .int .u8 116, .int .u8 32, .int .u8 49, .int .u8 58, .int .u8 50, .int .u8 32, .int .u8 98, .int .u8 32, .int .u8 52, .int .u8 10, .int .u8 120, .int .u8 121] 5 (17, 18))) := alloc1 _ _
  have hK3 := HK.out.later HB3.out
  have hT3 := Tab.later HT.out HB3.out
  have HP2 := Lib.hid (Wr.parse_any (some ⟨w3.heap.size, 0, none⟩) 17 lit2 (w3.alloc (.cells #[.int .u8 115, .int .u8 117, .int .u8 98, .int .u8 109, .int .u8 105, .int .u8 116, .int .u8 32, .int .u8 49, .int .u8 58, .int .u8 50, .int .u8 32, .int .u8 98, .int .u8 32, .int .u8 52, .int .u8 10, .int .u8 120, .int .u8 121] 5 (17, 18))) (hK3.later hb3) (Tab.later hT3 hb3) (lit_bz w3 lit2 _ 17 rfl (by kernel_rfl)) (by decide))
  rw [prs2, show lit2.length = 17 from rfl] at HP2
  have HQ2 : Hid (Calls Tryd.prog 15 #[.slice (some ⟨w3.heap.size, 0, none⟩) 17 17] (w3.alloc (.cells #[.int .u8 115, .int .u8 117, .int .u8 98, .int .u8 109, .int .u8 105, .int .u8 116, .int .u8 32, .int .u8 49, .int .u8 58, .int .u8 50, .int .u8 32, .int .u8 98, .int .u8 32, .int .u8 52, .int .u8 10, .int .u8 120, .int .u8 121] 5 (17, 18))) fun e w' => ∃ A2 c2, e = .returned (.tuple #[.agg #[.int .i64 7, .int .i64 1, .int .u64 4, .string ⟨#[98]⟩, .int .i64 4, .int .i64 0, .int .i64 0, .slice A2 2 c2], .int .i64 0]) ∧ BytesIn w' A2 [120, 121] ∧ Below (w3.alloc (.cells #[.int .u8 115, .int .u8 117, .int .u8 98, .int .u8 109, .int .u8 105, .int .u8 116, .int .u8 32, .int .u8 49, .int .u8 58, .int .u8 50, .int .u8 32, .int .u8 98, .int .u8 32, .int .u8 52, .int .u8 10, .int .u8 120, .int .u8 121] 5 (17, 18))).heap.size (w3.alloc (.cells #[.int .u8 115, .int .u8 117, .int .u8 98, .int .u8 109, .int .u8 105, .int .u8 116, .int .u8 32, .int .u8 49, .int .u8 58, .int .u8 50, .int .u8 32, .int .u8 98, .int .u8 32, .int .u8 52, .int .u8 10, .int .u8 120, .int .u8 121] 5 (17, 18))) w') :=
    Lib.hid (HP2.out.mono fun e w' h => by
      obtain ⟨⟨A, c, h1, h2⟩, h3⟩ := h
      obtain ⟨A', c', hv, _, hA'⟩ := bytes_of_own h2
      obtain rfl := (Value.slice.inj hv).1
      exact ⟨A, c, h1, hA', h3⟩)
  clear HP2
  have HB4 := Lib.hid hb3
  clear hb3 hK3 hT3 HB2 h23
  go_upto_region 2 with fail
  rw [← hw3, ← hg1]
  clear hw3 hg1
  go_wp2_with fail
  refine HQ2.out.mono ?_
  rintro e w5 ⟨A2, c2, rfl, hy, hb5⟩
  have h35 : Below w3.heap.size w3 w5 := HB4.out.trans (hb5.mono HB4.out.size)
  have HG5 := Lib.hid (show RqAt w5 g1 5 0 0 ⟨#[97]⟩ 0 1 3 A1 0 c1 from (h35.block _ (blk_lt HG1.out)).trans HG1.out)
  have HB5 := Lib.hid (HB3.out.trans (h35.mono HB3.out.size))
  clear HQ2 HB4 hb5 h35 HG1 HB3 kc
  obtain ⟨w6, hw6⟩ : ∃ W : World, W = w5.alloc (.cells #[.int .i64 7, .int .i64 1, .int .u64 4, .string ⟨#[98]⟩, .int .i64 4, .int .i64 0, .int .i64 0, .slice A2 2 c2] 28) := ⟨_, rfl⟩
  have h56 : Below w5.heap.size w5 w6 := by rw [hw6]; exact alloc1 _ _
  have HG2 := Lib.hid (show RqAt w6 w5.heap.size 7 1 4 ⟨#[98]⟩ 4 0 0 A2 2 c2 by rw [hw6]; exact Array.getElem?_push_size)
  have HG1 := Lib.hid (show RqAt w6 g1 5 0 0 ⟨#[97]⟩ 0 1 3 A1 0 c1 from (h56.block _ (blk_lt HG5.out)).trans HG5.out)
  have HB6 := Lib.hid (HB5.out.trans (h56.mono HB5.out.size))
  have hcv : (convert 26 9 (.slice A2 2 c2)).run Tryd.prog w6 = .ok (.string ⟨#[120, 121]⟩) w6 := conv_in c2 (hy.below h56)
  obtain ⟨g2, hg2⟩ : ∃ q, q = w5.heap.size := ⟨_, rfl⟩
  rw [← hg2] at HG2
  have HAN := Lib.hid (answer_any 6 none 0 [] w6 (HK.out.later HB6.out) ⟨Nat.le_refl _, .inl ⟨rfl, rfl⟩⟩ (by decide))
  rw [ans6, show ([] : List UInt8).length = 0 from rfl] at HAN
  have HAQ : Hid (Calls Tryd.prog 18 #[.agg #[.int .i64 6, .slice none 0 0]] w6 fun e w' => ∃ A c, e = .returned (.slice A 10 c) ∧ BytesIn w' A not1 ∧ Below w6.heap.size w6 w') :=
    Lib.hid (HAN.out.mono fun e w' h => by obtain ⟨⟨A, c, h1, -, h2, -⟩, h3⟩ := h; exact ⟨A, c, h1, h2, h3⟩)
  clear HAN
  go_upto_region 3 with fail
  rw [← hw6, ← hg2]
  clear hw6 hg2 h56 hy HG5 HB5
  have c0 := HG1.out.c0
  have c3 := HG1.out.c3
  have c5 := HG1.out.c5
  have c6 := HG1.out.c6
  have d4 := HG2.out.c4
  have d7 := HG2.out.c7
  go_wp2_with fail
  refine HAQ.out.mono ?_
  rintro e w7 ⟨A7, c7, rfl, hy7, hb7⟩
  have hcv7 : (convert 26 9 (.slice A7 10 c7)).run Tryd.prog w7 = .ok (.string ⟨#[110, 111, 116, 45, 102, 111, 117, 110, 100, 10]⟩) w7 := conv_in c7 hy7
  have HB7 := Lib.hid (HB6.out.trans (hb7.mono HB6.out.size))
  have HW := Lib.hid (word_any 1 w7 (HK.out.later HB7.out))
  rw [wrd1] at HW
  unfold str at HW
  clear c0 c3 c5 c6 d4 d7 hcv HG1 HG2 HB6 hb7 HAQ hy7
  go_wp2_with fail
  refine HW.out.mono ?_
  rintro e w8 ⟨rfl, hb8⟩
  have HB8 := Lib.hid (HB7.out.trans (hb8.mono HB7.out.size))
  clear HB7 hb8 HW
  go_wp2_with fail
  go_ret
  exact ⟨ret_of rfl, HB8.out⟩
end Go.Proofs.YtddakaeacgojmaaDoor.Wr
