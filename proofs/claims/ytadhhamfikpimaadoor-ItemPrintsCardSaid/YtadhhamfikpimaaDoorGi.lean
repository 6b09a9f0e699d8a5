/-
  Plain facts on the order of labels.
  Users and floors in memory, wherever they lie; the contract of policy's Floor.
  The contracts of policy's Find, and of known.take.
-/
import Derived.Test.YtadhhamfikpimaaDoorGb
import Derived.Test.YtadhhamfikpimaaDoorGh
namespace Go.Proofs.YtadhhamfikpimaaDoor.L

theorem sub_iff (c d : Nat) : c ||| d = d ↔ ∀ i, c.testBit i = true → d.testBit i = true := by
  constructor
  · intro h i hi
    rw [← h, Nat.testBit_or, hi]; rfl
  · intro h
    apply Nat.eq_of_testBit_eq
    intro i
    rw [Nat.testBit_or]
    cases hb : c.testBit i with
    | false => simp
    | true => rw [h i hb]; rfl
theorem below_iff (l m : Int) (c d : Nat) : belowB l c m d = true ↔ l ≤ m ∧ ∀ i, c.testBit i = true → d.testBit i = true := by
  unfold belowB
  rw [Bool.and_eq_true, decide_eq_true_iff, beq_iff_eq, sub_iff]
theorem below_meet (n l m : Int) (e c d : Nat) (h : belowB n e l c = true) : belowB n e m d = belowB n e (min l m) (c &&& d) := by
  rw [below_iff] at h
  rw [Bool.eq_iff_iff, below_iff, below_iff]
  constructor
  · rintro ⟨h1, h2⟩
    exact ⟨by omega, fun i hi => by rw [Nat.testBit_and, h.2 i hi, h2 i hi]; rfl⟩
  · rintro ⟨h1, h2⟩
    refine ⟨by omega, fun i hi => ?_⟩
    have := h2 i hi
    rw [Nat.testBit_and, Bool.and_eq_true] at this
    exact this.2
theorem below_join (l m n : Int) (c d e : Nat) : belowB (max l m) (c ||| d) n e = (belowB l c n e && belowB m d n e) := by
  rw [Bool.eq_iff_iff, Bool.and_eq_true, below_iff, below_iff, below_iff]
  constructor
  · rintro ⟨h1, h2⟩
    exact ⟨⟨by omega, fun i hi => h2 i (by rw [Nat.testBit_or, hi]; rfl)⟩, by omega, fun i hi => h2 i (by rw [Nat.testBit_or, hi, Bool.or_true])⟩
  · rintro ⟨⟨h1, h2⟩, h3, h4⟩
    refine ⟨by omega, fun i hi => ?_⟩
    rw [Nat.testBit_or, Bool.or_eq_true] at hi
    rcases hi with hi | hi
    · exact h2 i hi
    · exact h4 i hi
theorem and_of_or (c d : Nat) : c ||| d = d ↔ c &&& d = c := by
  rw [sub_iff]
  constructor
  · intro h
    apply Nat.eq_of_testBit_eq
    intro i
    rw [Nat.testBit_and]
    cases hb : c.testBit i with
    | false => rfl
    | true => rw [h i hb]; rfl
  · intro h i hi
    rw [← h, Nat.testBit_and, Bool.and_eq_true] at hi
    exact hi.2
theorem below_refl (l : Int) (c : Nat) : belowB l c l c = true := (below_iff _ _ _ _).2 ⟨Int.le_refl _, fun _ h => h⟩
theorem below_trans {l m n : Int} {c d e : Nat} (h : belowB l c m d = true) (h' : belowB m d n e = true) : belowB l c n e = true := by
  rw [below_iff] at h h' ⊢
  exact ⟨Int.le_trans h.1 h'.1, fun i hi => h'.2 i (h.2 i hi)⟩
theorem below_anti {l m : Int} {c d : Nat} (h : belowB l c m d = true) (h' : belowB m d l c = true) : l = m ∧ c = d := by
  rw [below_iff] at h h'
  refine ⟨Int.le_antisymm h.1 h'.1, Nat.eq_of_testBit_eq fun i => ?_⟩
  cases hb : c.testBit i with
  | true => rw [h.2 i hb]
  | false =>
    cases hd : d.testBit i with
    | true => rw [h'.2 i hd] at hb; cases hb
    | false => rfl
theorem below_j1 (l m : Int) (c d : Nat) : belowB l c (max l m) (c ||| d) = true := (below_iff _ _ _ _).2 ⟨by omega, fun i hi => by rw [Nat.testBit_or, hi]; rfl⟩
theorem below_j2 (l m : Int) (c d : Nat) : belowB m d (max l m) (c ||| d) = true := (below_iff _ _ _ _).2 ⟨by omega, fun i hi => by rw [Nat.testBit_or, hi, Bool.or_true]⟩
theorem below_m1 (l m : Int) (c d : Nat) : belowB (min l m) (c &&& d) l c = true := (below_iff _ _ _ _).2 ⟨by omega, fun i hi => by rw [Nat.testBit_and, Bool.and_eq_true] at hi; exact hi.1⟩
theorem below_m2 (l m : Int) (c d : Nat) : belowB (min l m) (c &&& d) m d = true := (below_iff _ _ _ _).2 ⟨by omega, fun i hi => by rw [Nat.testBit_and, Bool.and_eq_true] at hi; exact hi.2⟩
theorem below_bot {l : Int} (c : Nat) (h : 0 ≤ l) : belowB 0 0 l c = true := (below_iff _ _ _ _).2 ⟨h, fun i hi => by simp at hi⟩
theorem below_top {l : Int} {c : Nat} (h : l ≤ 15) (hc : c < 18446744073709551616) : belowB l c 15 18446744073709551615 = true := by
  refine (below_iff _ _ _ _).2 ⟨h, fun i hi => ?_⟩
  have hi64 : i < 64 := by
    rcases Nat.lt_or_ge i 64 with h | h
    · exact h
    · rw [Nat.testBit_lt_two_pow (Nat.lt_of_lt_of_le hc (Nat.pow_le_pow_right (n := 2) (by omega) h))] at hi
      cases hi
  rw [show 18446744073709551615 = 2 ^ 64 - 1 by rfl, Nat.testBit_two_pow_sub_one]
  simpa using hi64
end Go.Proofs.YtadhhamfikpimaaDoor.L

namespace Go.Proofs.YtadhhamfikpimaaDoor.O
set_option linter.unusedVariables false
set_option linter.unusedSimpArgs false
open Go.RowKit
open T

def UsersIn (w : World) (A : Option Addr) (us : List Usr) : Prop :=
  0 < us.length → ∃ bk off, A = some ⟨bk, off, none⟩ ∧ bk < w.heap.size ∧ ∀ j (h : j < us.length), w.cell? ⟨bk, off + j * 4, none⟩ = some (.string ⟨us[j].name.toArray⟩) ∧ w.cell? ⟨bk, off + j * 4 + 1, none⟩ = some (.int .i64 us[j].lv) ∧ w.cell? ⟨bk, off + j * 4 + 2, none⟩ = some (.int .u64 (us[j].ct : Int)) ∧ w.cell? ⟨bk, off + j * 4 + 3, none⟩ = some (.bool us[j].ad)
def FloorsIn (w : World) (A : Option Addr) (fs : List Flr) : Prop :=
  0 < fs.length → ∃ bk off, A = some ⟨bk, off, none⟩ ∧ bk < w.heap.size ∧ ∀ j (h : j < fs.length), w.cell? ⟨bk, off + j * 3, none⟩ = some (.string ⟨fs[j].pre.toArray⟩) ∧ w.cell? ⟨bk, off + j * 3 + 1, none⟩ = some (.int .i64 fs[j].lv) ∧ w.cell? ⟨bk, off + j * 3 + 2, none⟩ = some (.int .u64 (fs[j].ct : Int))
theorem UsersIn.below {w w' : World} {A : Option Addr} {us : List Usr} (h : UsersIn w A us) (hb : Below w.heap.size w w') : UsersIn w' A us := fun hp => by
  obtain ⟨bk, off, e, hlt, hl⟩ := h hp
  exact ⟨bk, off, e, Nat.lt_of_lt_of_le hlt hb.size, fun j hj => ⟨(hb.cell (p := ⟨bk, _, none⟩) hlt).trans (hl j hj).1, (hb.cell (p := ⟨bk, _, none⟩) hlt).trans (hl j hj).2.1, (hb.cell (p := ⟨bk, _, none⟩) hlt).trans (hl j hj).2.2.1, (hb.cell (p := ⟨bk, _, none⟩) hlt).trans (hl j hj).2.2.2⟩⟩
theorem FloorsIn.below {w w' : World} {A : Option Addr} {fs : List Flr} (h : FloorsIn w A fs) (hb : Below w.heap.size w w') : FloorsIn w' A fs := fun hp => by
  obtain ⟨bk, off, e, hlt, hl⟩ := h hp
  exact ⟨bk, off, e, Nat.lt_of_lt_of_le hlt hb.size, fun j hj => ⟨(hb.cell (p := ⟨bk, _, none⟩) hlt).trans (hl j hj).1, (hb.cell (p := ⟨bk, _, none⟩) hlt).trans (hl j hj).2.1, (hb.cell (p := ⟨bk, _, none⟩) hlt).trans (hl j hj).2.2⟩⟩
theorem usrCells_at : ∀ (us : List Usr) (j : Nat) (h : j < us.length), (usrCells us)[j * 4]? = some (.string ⟨us[j].name.toArray⟩) ∧ (usrCells us)[j * 4 + 1]? = some (.int .i64 us[j].lv) ∧ (usrCells us)[j * 4 + 2]? = some (.int .u64 (us[j].ct : Int)) ∧ (usrCells us)[j * 4 + 3]? = some (.bool us[j].ad)
  | u :: r, 0, _ => by simp [usrCells]
  | u :: r, j + 1, h => by
    have ih := usrCells_at r j (by simpa using h)
    have e : usrCells (u :: r) = .string ⟨u.name.toArray⟩ :: .int .i64 u.lv :: .int .u64 (u.ct : Int) :: .bool u.ad :: usrCells r := by simp [usrCells]
    rw [e, show (j + 1) * 4 = j * 4 + 1 + 1 + 1 + 1 by omega]
    simpa using ih
theorem flrCells_at : ∀ (fs : List Flr) (j : Nat) (h : j < fs.length), (flrCells fs)[j * 3]? = some (.string ⟨fs[j].pre.toArray⟩) ∧ (flrCells fs)[j * 3 + 1]? = some (.int .i64 fs[j].lv) ∧ (flrCells fs)[j * 3 + 2]? = some (.int .u64 (fs[j].ct : Int))
  | u :: r, 0, _ => by simp [flrCells]
  | u :: r, j + 1, h => by
    have ih := flrCells_at r j (by simpa using h)
    have e : flrCells (u :: r) = .string ⟨u.pre.toArray⟩ :: .int .i64 u.lv :: .int .u64 (u.ct : Int) :: flrCells r := by simp [flrCells]
    rw [e, show (j + 1) * 3 = j * 3 + 1 + 1 + 1 by omega]
    simpa using ih
theorem users_of_own {w : World} {base : Nat} {v : Value} {us : List Usr} (h : w.ownsRow base 72 4 v us.length (usrCells us)) : ∃ A cap, v = .slice A us.length cap ∧ UsersIn w A us := by
  obtain ⟨A, cap, hv, hc, hA⟩ := own_form h
  refine ⟨A, cap, hv, fun hp => ?_⟩
  obtain ⟨g, rfl, _, hlt, hcells⟩ := hA hp
  exact ⟨g, 0, rfl, hlt, fun j hj => by simp only [Nat.zero_add]; exact ⟨hcells _ _ (usrCells_at us j hj).1, hcells _ _ (usrCells_at us j hj).2.1, hcells _ _ (usrCells_at us j hj).2.2.1, hcells _ _ (usrCells_at us j hj).2.2.2⟩⟩
theorem floors_of_own {w : World} {base : Nat} {v : Value} {fs : List Flr} (h : w.ownsRow base 76 3 v fs.length (flrCells fs)) : ∃ A cap, v = .slice A fs.length cap ∧ FloorsIn w A fs := by
  obtain ⟨A, cap, hv, hc, hA⟩ := own_form h
  refine ⟨A, cap, hv, fun hp => ?_⟩
  obtain ⟨g, rfl, _, hlt, hcells⟩ := hA hp
  exact ⟨g, 0, rfl, hlt, fun j hj => by simp only [Nat.zero_add]; exact ⟨hcells _ _ (flrCells_at fs j hj).1, hcells _ _ (flrCells_at fs j hj).2.1, hcells _ _ (flrCells_at fs j hj).2.2⟩⟩

theorem three_blocks (w : World) (a b c : Obj) : (((w.alloc a).alloc b).alloc c).heap[w.heap.size + 1]? = some b ∧ (((w.alloc a).alloc b).alloc c).heap[w.heap.size + 1 + 1]? = some c ∧ Below w.heap.size w (((w.alloc a).alloc b).alloc c) := by
  obtain ⟨w1, h1⟩ : ∃ w1, w1 = w.alloc a := ⟨_, rfl⟩
  obtain ⟨w2, h2⟩ : ∃ w2, w2 = w1.alloc b := ⟨_, rfl⟩
  have s1 : w1.heap.size = w.heap.size + 1 := by rw [h1]; simp
  have s2 : w2.heap.size = w.heap.size + 1 + 1 := by rw [h2]; simp; omega
  have p2 : w2.heap[w.heap.size + 1]? = some b := by rw [h2, ← s1]; exact heap_alloc_new w1 _
  rw [← h1, ← h2]
  refine ⟨(Below.heap_alloc w2 c _ (by omega)).trans p2, by rw [← s2]; exact heap_alloc_new w2 c, ?_⟩
  rw [h2, h1]
  exact L.three w a b c
/-- A file's floor, on from a label. -/
def floorOn (nm : List UInt8) (a : Int × Nat) : List Flr → Int × Nat
  | [] => a
  | f :: r => floorOn nm (if f.pre <+: nm then (max a.1 f.lv, a.2 ||| f.ct) else a) r
theorem floorOn_take {nm : List UInt8} {fs : List Flr} {k : Nat} (hk : k < fs.length) (a : Int × Nat) : floorOn nm a (fs.drop k) = floorOn nm (if fs[k].pre <+: nm then (max a.1 fs[k].lv, a.2 ||| fs[k].ct) else a) (fs.drop (k + 1)) := by
  rw [List.drop_eq_getElem_cons hk, floorOn]
def Pref (x y : ByteArray) (b : Bool) : Prop := ∀ w : World, Calls Tryd.prog 48 #[.string x, .string y] w fun e w' => e = .returned (.bool b) ∧ w = w'
theorem Pref.call {x y : ByteArray} {b : Bool} (h : Pref x y b) (w : World) : Calls Tryd.prog 48 #[.string x, .string y] w fun e w' => e = .returned (.bool b) ∧ w = w' := h w
theorem pref_is (x : ByteArray) (p : List UInt8) : Pref x ⟨p.toArray⟩ (decide (p <+: x.data.toList)) := fun w => (Tryd.strings_HasPrefix x ⟨p.toArray⟩ w).mono fun e w' he => ⟨by
  rw [he.1, list_data]
  congr 2
  unfold Lib.hasPrefix
  rw [Bool.eq_iff_iff, List.isPrefixOf_iff_prefix, decide_eq_true_iff], he.2.symm⟩

set_option maxRecDepth 100000 in
set_option maxHeartbeats 4000000 in
theorem floor_any (n0 n1 n2 n3 n4 n5 : Int) (hid : ByteArray) (uA fA : Option Addr) (un ucap fcap : Nat) (fs : List Flr) (x : ByteArray) (w : World) (hF : FloorsIn w fA fs) (hct : ∀ f ∈ fs, f.ct < 18446744073709551616) (hlen : fs.length ≤ maxLen) :
    Calls Tryd.prog 21 #[polA n0 n1 n2 n3 n4 n5 hid (.slice uA un ucap) (.slice fA fs.length fcap), .string x] w fun e w' => e = .returned (L.lab (floorOn x.data.toList (0, 0) fs).1 (floorOn x.data.toList (0, 0) fs).2) ∧ Below w.heap.size w w' := by
  unfold maxLen at hlen
  have HF := Lib.hid hF
  have HCT := Lib.hid hct
  clear hF hct
  go_enter Tryd.func21, Tryd.ntmps21
  go_wp2_with fail
  obtain ⟨s2, s1', s3⟩ := three_blocks w (.cells #[.int .i64 n0, .int .i64 n1, .int .i64 n2, .int .i64 n3, .int .i64 n4, .int .i64 n5, .string hid, .slice uA un ucap, .slice fA fs.length fcap] 26) (.cells #[.int .i64 0, .int .u64 0] 40) (.cells #[.int .i64 0, .int .u64 0] 40)
  generalize ((w.alloc (Obj.cells #[.int .i64 n0, .int .i64 n1, .int .i64 n2, .int .i64 n3, .int .i64 n4, .int .i64 n5, .string hid, .slice uA un ucap, .slice fA fs.length fcap] 26)).alloc (.cells #[.int .i64 0, .int .u64 0] 40)).alloc (.cells #[.int .i64 0, .int .u64 0] 40) = wB at s2 s3 s1' ⊢
  generalize hab : w.heap.size + 1 + 1 = ab at *
  generalize hrb : w.heap.size + 1 = rb at *
  have n6 : w.heap.size < rb := by omega
  have n7 : rb < ab := by omega
  have dne : ¬ rb = ab := by omega
  have dne' : ¬ ab = rb := by omega
  clear hab hrb
  have S1 := Lib.hid s1'
  have S2 := Lib.hid s2
  have S3 := Lib.hid s3
  clear s1' s2 s3
  go_loopg [11] fs.length (fun m i wr => ∃ (k : Nat) (a : Int) (c : Nat), k ≤ fs.length ∧ i = .int .i64 k ∧ fs.length - k ≤ m ∧ Hid (wr.heap[rb]? = some (.cells #[.int .i64 0, .int .u64 0] 40 (0, 0)) ∧ wr.heap[ab]? = some (.cells #[.int .i64 a, .int .u64 (c : Int)] 40 (0, 0)) ∧ Below w.heap.size w wr ∧ c < 18446744073709551616 ∧ floorOn x.data.toList (0, 0) fs = floorOn x.data.toList (a, c) (fs.drop k)))
  case atStart => exact ⟨0, 0, 0, Nat.zero_le _, rfl, by omega, Lib.hid ⟨S2.out, S1.out, S3.out, by omega, rfl⟩⟩
  case round =>
    obtain ⟨k, a, c, hk, rfl, hm, HI⟩ := hrel
    obtain ⟨i1, i2, i3, i4, i5⟩ := HI.out
    by_cases hlt : k < fs.length
    · obtain ⟨bk, off, hAe, hbk, hB⟩ := HF.out (by omega)
      subst hAe
      obtain ⟨c0, c1, c2⟩ := hB k hlt
      have c0' := (i3.cell (p := ⟨bk, _, none⟩) hbk).trans c0
      have c1' := (i3.cell (p := ⟨bk, _, none⟩) hbk).trans c1
      have c2' := (i3.cell (p := ⟨bk, _, none⟩) hbk).trans c2
      have hpr := pref_is x fs[k].pre
      have hcc := HCT.out _ (List.getElem_mem hlt)
      have hst := floorOn_take (nm := x.data.toList) hlt (a, c)
      rw [i5] at *
      generalize hfk : fs[k] = fk at *
      obtain ⟨fp, fl, fc⟩ := fk
      clear hfk c0 c1 c2 hB
      simp only at c0' c1' c2' hpr hcc hst
      obtain ⟨xp, hxp⟩ : ∃ y : ByteArray, y = ⟨fp.toArray⟩ := ⟨_, rfl⟩
      rw [← hxp] at c0' hpr
      clear hxp
      have h0k : (0 : Int) ≤ (k : Int) := by omega
      have hki : (k : Int) < (fs.length : Int) := by omega
      have hb1 : Below wr.heap.size wr (wr.alloc (.cells #[.string xp, .int .i64 fl, .int .u64 (fc : Int)] 76)) := (Below.refl _ _).alloc (Nat.le_refl _) _
      have j1 := (hb1.block rb (L.blk_lt i1)).trans i1
      have j2 := (hb1.block ab (L.blk_lt i2)).trans i2
      have j3 := i3.trans (hb1.mono i3.size)
      obtain ⟨d0, d1⟩ := lab_cells j2
      by_cases hpre : fp <+: x.data.toList
      · rw [decide_eq_true hpre] at hpr
        rw [if_pos hpre] at hst
        have HPR := Lib.hid hpr
        have HJ1 := Lib.hid j1
        have HJ2 := Lib.hid j2
        have HJ3 := Lib.hid j3
        have HST := Lib.hid hst
        have hor := L.or_small i4 hcc
        clear hpr hst i1 i2 i3 i5 HI j1 j2 j3 hb1 hpre
        go_wp2_with fail
        with_reducible refine (HPR.out.call _).mono ?_
        rintro e w' ⟨rfl, rfl⟩
        clear c0' c1' c2'
        go_wp2_with fail
        with_reducible refine (L.join_any _ _ _ _ _ i4 hcc).mono ?_
        rintro e w2 ⟨rfl, hb2⟩
        have k1 := (hb2.block rb (L.blk_lt HJ1.out)).trans HJ1.out
        have k2 := (hb2.block ab (L.blk_lt HJ2.out)).trans HJ2.out
        have k3 := HJ3.out.trans (hb2.mono HJ3.out.size)
        obtain ⟨f0, f1⟩ := lab_cells k2
        have z0 := L.blk_free k2 0
        have z1 := L.blk_free k2 1
        have e1 := L.blk_set k2 0 (.int .i64 (max a fl))
        have e2 := L.blk_set e1 1 (.int .u64 ((c ||| fc : Nat) : Int))
        have e3 : Below w.heap.size w ((w2.setCell ⟨ab, 0, none⟩ (.int .i64 (max a fl))).setCell ⟨ab, 1, none⟩ (.int .u64 ((c ||| fc : Nat) : Int))) := (k3.setCell (p := ⟨ab, 0, none⟩) (by show _ ≤ ab; omega) _).setCell (p := ⟨ab, 1, none⟩) (by show _ ≤ ab; omega) _
        have e4 : ((w2.setCell ⟨ab, 0, none⟩ (.int .i64 (max a fl))).setCell ⟨ab, 1, none⟩ (.int .u64 ((c ||| fc : Nat) : Int))).heap[rb]? = some (.cells #[.int .i64 0, .int .u64 0] 40 (0, 0)) := (L.blk_far dne _).trans ((L.blk_far dne _).trans k1)
        have HI2 := Lib.hid (show _ ∧ _ ∧ _ ∧ _ ∧ _ from ⟨e4, e2, e3, hor, HST.out⟩)
        clear HPR HJ1 HJ2 HJ3 HST k1 k2 k3 e1 e2 e3 e4 hb2 d0 d1
        go_wp2_with fail
        go_roundg (fs.length - (k + 1))
        case rel => exact ⟨k + 1, max a fl, c ||| fc, by omega, by go_num, Nat.le_refl _, HI2⟩
        case measure => omega
      · rw [decide_eq_false hpre] at hpr
        rw [if_neg hpre] at hst
        have HPR := Lib.hid hpr
        have HI2 := Lib.hid (show _ ∧ _ ∧ _ ∧ _ ∧ _ from ⟨j1, j2, j3, i4, hst⟩)
        clear hpr hst i1 i2 i3 i4 i5 HI j1 j2 j3 hb1 hpre hcc
        go_wp2_with fail
        with_reducible refine (HPR.out.call _).mono ?_
        rintro e w' ⟨rfl, rfl⟩
        clear c0' c1' c2' d0 d1
        go_wp2_with fail
        go_roundg (fs.length - (k + 1))
        case rel => exact ⟨k + 1, a, c, by omega, by go_num, Nat.le_refl _, HI2⟩
        case measure => omega
    · have hfl : floorOn x.data.toList (0, 0) fs = (a, c) := by rw [i5, List.drop_eq_nil_of_le (by omega)]; rfl
      have HFL := Lib.hid hfl
      obtain ⟨f0, f1⟩ := lab_cells i2
      obtain ⟨r0, r1⟩ := lab_cells i1
      have z0 := L.blk_free i1 0
      have z1 := L.blk_free i1 1
      have H1 := Lib.hid i1
      have H3 := Lib.hid i3
      clear hfl i1 i2 i3 i4 i5 HI
      go_wp2_with fail
      have e1 := L.blk_set H1.out 0 (.int .i64 a)
      have e2 := L.blk_set e1 1 (.int .u64 (c : Int))
      have q0 : (wr.setCell ⟨rb, 0, none⟩ (.int .i64 a)).cell? ⟨rb, 0, none⟩ = some (.int .i64 a) := L.blk_cell e1 0
      have q1 : ((wr.setCell ⟨rb, 0, none⟩ (.int .i64 a)).setCell ⟨rb, 1, none⟩ (.int .u64 (c : Int))).cell? ⟨rb, 1, none⟩ = some (.int .u64 (c : Int)) := L.blk_cell e2 1
      refine bodyPost_ret (v := L.lab a c) (by simp [results, Tryd.results21, go_sem, q0, q1]) rfl ⟨by rw [HFL.out], ?_⟩
      exact (H3.out.setCell (p := ⟨rb, 0, none⟩) (Nat.le_of_lt n6) _).setCell (p := ⟨rb, 1, none⟩) (Nat.le_of_lt n6) _
end Go.Proofs.YtadhhamfikpimaaDoor.O

namespace Go.Proofs.YtadhhamfikpimaaDoor.O
set_option linter.unusedVariables false
set_option linter.unusedSimpArgs false
open Go.RowKit
open T

def usrA (u : Usr) : Value := .agg #[.string ⟨u.name.toArray⟩, .int .i64 u.lv, .int .u64 (u.ct : Int), .bool u.ad]
def findVal (o : Option Usr) : Value := match o with
  | some u => .tuple #[usrA u, .bool true]
  | none => .tuple #[.agg #[.string ⟨#[]⟩, .int .i64 0, .int .u64 0, .bool false], .bool false]
theorem find_hit {us : List Usr} {k : Nat} {nm : List UInt8} (hk : k < us.length) (h : us[k].name = nm) : (us.drop k).find? (fun u => decide (u.name = nm)) = some us[k] := by
  rw [List.drop_eq_getElem_cons hk, List.find?_cons_of_pos (by simpa using h)]
theorem find_miss {us : List Usr} {k : Nat} {nm : List UInt8} (hk : k < us.length) (h : us[k].name ≠ nm) : (us.drop k).find? (fun u => decide (u.name = nm)) = (us.drop (k + 1)).find? (fun u => decide (u.name = nm)) := by
  rw [List.drop_eq_getElem_cons hk, List.find?_cons_of_neg (by simpa using h)]
theorem two_blocks' (w : World) (a b : Obj) : ((w.alloc a).alloc b).heap[w.heap.size + 1]? = some b ∧ Below w.heap.size w ((w.alloc a).alloc b) := by
  obtain ⟨w1, h1⟩ : ∃ w1, w1 = w.alloc a := ⟨_, rfl⟩
  have s1 : w1.heap.size = w.heap.size + 1 := by rw [h1]; simp
  rw [← h1]
  refine ⟨by rw [← s1]; exact heap_alloc_new w1 b, ?_⟩
  rw [h1]
  exact two_new w a b
theorem str_bytes (a : List UInt8) (x : ByteArray) : ((⟨a.toArray⟩ : ByteArray).toList == x.toList) = decide (a = x.data.toList) := by
  rw [Lib.toList_data, Lib.toList_data, list_data]
  by_cases h : a = x.data.toList <;> simp [h]

set_option maxRecDepth 100000 in
set_option maxHeartbeats 4000000 in
theorem find_any (n0 n1 n2 n3 n4 n5 : Int) (hid : ByteArray) (uA fA : Option Addr) (ucap fn fcap : Nat) (us : List Usr) (x : ByteArray) (w : World) (hU : UsersIn w uA us) (hlen : us.length ≤ maxLen) :
    Calls Tryd.prog 39 #[polA n0 n1 n2 n3 n4 n5 hid (.slice uA us.length ucap) (.slice fA fn fcap), .string x] w fun e w' => e = .returned (findVal (us.find? fun u => decide (u.name = x.data.toList))) ∧ Below w.heap.size w w' := by
  unfold maxLen at hlen
  have HU := Lib.hid hU
  clear hU
  go_enter Tryd.func39, Tryd.ntmps39
  go_wp2_with fail
  obtain ⟨s1, s2⟩ := two_blocks' w (.cells #[.int .i64 n0, .int .i64 n1, .int .i64 n2, .int .i64 n3, .int .i64 n4, .int .i64 n5, .string hid, .slice uA us.length ucap, .slice fA fn fcap] 26) (.cells #[.string ⟨#[]⟩, .int .i64 0, .int .u64 0, .bool false] 72)
  generalize (w.alloc (Obj.cells #[.int .i64 n0, .int .i64 n1, .int .i64 n2, .int .i64 n3, .int .i64 n4, .int .i64 n5, .string hid, .slice uA us.length ucap, .slice fA fn fcap] 26)).alloc (.cells #[.string ⟨#[]⟩, .int .i64 0, .int .u64 0, .bool false] 72) = wB at s1 s2 ⊢
  generalize hrb : w.heap.size + 1 = rb at *
  have n6 : w.heap.size < rb := by omega
  clear hrb
  have S1 := Lib.hid s1
  have S2 := Lib.hid s2
  clear s1 s2
  go_loopg [11] us.length (fun m i wr => ∃ (k : Nat), k ≤ us.length ∧ i = .int .i64 k ∧ us.length - k ≤ m ∧ Hid (wr.heap[rb]? = some (.cells #[.string ⟨#[]⟩, .int .i64 0, .int .u64 0, .bool false] 72 (0, 0)) ∧ Below w.heap.size w wr ∧ (us.find? fun u => decide (u.name = x.data.toList)) = (us.drop k).find? (fun u => decide (u.name = x.data.toList))))
  case atStart => exact ⟨0, Nat.zero_le _, rfl, by omega, Lib.hid ⟨S1.out, S2.out, rfl⟩⟩
  case round =>
    obtain ⟨k, hk, rfl, hm, HI⟩ := hrel
    obtain ⟨i1, i3, i5⟩ := HI.out
    by_cases hlt : k < us.length
    · obtain ⟨bk, off, hAe, hbk, hB⟩ := HU.out (by omega)
      subst hAe
      obtain ⟨c0, c1, c2, c3⟩ := hB k hlt
      have c0' := (i3.cell (p := ⟨bk, _, none⟩) hbk).trans c0
      have c1' := (i3.cell (p := ⟨bk, _, none⟩) hbk).trans c1
      have c2' := (i3.cell (p := ⟨bk, _, none⟩) hbk).trans c2
      have c3' := (i3.cell (p := ⟨bk, _, none⟩) hbk).trans c3
      have hq := str_bytes us[k].name x
      have HH : us[k].name = x.data.toList → _ := find_hit (nm := x.data.toList) hlt
      have HM : us[k].name ≠ x.data.toList → _ := find_miss (nm := x.data.toList) hlt
      have HH := Lib.hid HH
      have HM := Lib.hid HM
      generalize hfk : us[k] = uk at *
      obtain ⟨un', ul, uc, ua⟩ := uk
      clear hfk c0 c1 c2 c3 hB
      simp only at c0' c1' c2' c3' hq
      obtain ⟨xp, hxp⟩ : ∃ y : ByteArray, y = ⟨un'.toArray⟩ := ⟨_, rfl⟩
      rw [← hxp] at c0' hq
      have HXP := Lib.hid hxp
      clear hxp
      have h0k : (0 : Int) ≤ (k : Int) := by omega
      have hki : (k : Int) < (us.length : Int) := by omega
      have hb1 : Below wr.heap.size wr (wr.alloc (.cells #[.string xp, .int .i64 ul, .int .u64 (uc : Int), .bool ua] 72)) := (Below.refl _ _).alloc (Nat.le_refl _) _
      have j1 := (hb1.block rb (L.blk_lt i1)).trans i1
      have j3 := i3.trans (hb1.mono i3.size)
      by_cases hpre : un' = x.data.toList
      · rw [decide_eq_true hpre] at hq
        have hr := i5.trans (HH.out hpre)
        have r0 : (wr.alloc (.cells #[.string xp, .int .i64 ul, .int .u64 (uc : Int), .bool ua] 72)).cell? ⟨rb, 0, none⟩ = some (.string ⟨#[]⟩) := L.blk_cell j1 0
        have r1 : (wr.alloc (.cells #[.string xp, .int .i64 ul, .int .u64 (uc : Int), .bool ua] 72)).cell? ⟨rb, 1, none⟩ = some (.int .i64 0) := L.blk_cell j1 1
        have r2 : (wr.alloc (.cells #[.string xp, .int .i64 ul, .int .u64 (uc : Int), .bool ua] 72)).cell? ⟨rb, 2, none⟩ = some (.int .u64 0) := L.blk_cell j1 2
        have r3 : (wr.alloc (.cells #[.string xp, .int .i64 ul, .int .u64 (uc : Int), .bool ua] 72)).cell? ⟨rb, 3, none⟩ = some (.bool false) := L.blk_cell j1 3
        have z0 := L.blk_free j1 0
        have z1 := L.blk_free j1 1
        have z2 := L.blk_free j1 2
        have z3 := L.blk_free j1 3
        have HJ1 := Lib.hid j1
        have HJ3 := Lib.hid j3
        have HR := Lib.hid hr
        clear hr i1 i3 i5 HI j1 j3 hb1 hpre HH HM
        go_wp2_with fail
        clear r0 r1 r2 r3 z0 z1 z2 z3 c0' c1' c2' c3'
        obtain ⟨W0, hW0⟩ : ∃ W0 : World, W0 = wr.alloc (.cells #[.string xp, .int .i64 ul, .int .u64 (uc : Int), .bool ua] 72) := ⟨_, rfl⟩
        rw [← hW0] at HJ1 HJ3 ⊢
        clear hW0
        obtain ⟨W4, hW4⟩ : ∃ W4 : World, W4 = (((W0.setCell ⟨rb, 0, none⟩ (.string xp)).setCell ⟨rb, 1, none⟩ (.int .i64 ul)).setCell ⟨rb, 2, none⟩ (.int .u64 (uc : Int))).setCell ⟨rb, 3, none⟩ (.bool ua) := ⟨_, rfl⟩
        have hf : W4.heap[rb]? = some (.cells #[.string xp, .int .i64 ul, .int .u64 (uc : Int), .bool ua] 72 (0, 0)) := by
          rw [hW4]
          exact L.blk_set (L.blk_set (L.blk_set (L.blk_set HJ1.out 0 (.string xp)) 1 (.int .i64 ul)) 2 (.int .u64 (uc : Int))) 3 (.bool ua)
        have hbf : Below w.heap.size w W4 := by
          rw [hW4]
          exact (((HJ3.out.setCell (p := ⟨rb, 0, none⟩) (Nat.le_of_lt n6) _).setCell (p := ⟨rb, 1, none⟩) (Nat.le_of_lt n6) _).setCell (p := ⟨rb, 2, none⟩) (Nat.le_of_lt n6) _).setCell (p := ⟨rb, 3, none⟩) (Nat.le_of_lt n6) _
        rw [← hW4]
        clear hW4
        have q0 : W4.cell? ⟨rb, 0, none⟩ = some (.string xp) := L.blk_cell hf 0
        have q1 : W4.cell? ⟨rb, 1, none⟩ = some (.int .i64 ul) := L.blk_cell hf 1
        have q2 : W4.cell? ⟨rb, 2, none⟩ = some (.int .u64 (uc : Int)) := L.blk_cell hf 2
        have q3 : W4.cell? ⟨rb, 3, none⟩ = some (.bool ua) := L.blk_cell hf 3
        refine bodyPost_ret (v := .tuple #[.agg #[.string xp, .int .i64 ul, .int .u64 (uc : Int), .bool ua], .bool true]) (by simp [results, Tryd.results39, go_sem, q0, q1, q2, q3]) rfl ⟨?_, hbf⟩
        rw [HR.out, HXP.out]
        rfl
      · rw [decide_eq_false hpre] at hq
        have HI2 := Lib.hid (show _ ∧ _ ∧ _ from ⟨j1, j3, i5.trans (HM.out hpre)⟩)
        clear i1 i3 i5 HI j1 j3 hb1 hpre HH HM HXP
        go_wp2_with fail
        go_roundg (us.length - (k + 1))
        case rel => exact ⟨k + 1, by omega, by go_num, Nat.le_refl _, HI2⟩
        case measure => omega
    · have hfl : (us.find? fun u => decide (u.name = x.data.toList)) = none := by rw [i5, List.drop_eq_nil_of_le (by omega)]; rfl
      have HFL := Lib.hid hfl
      have r0 : wr.cell? ⟨rb, 0, none⟩ = some (.string ⟨#[]⟩) := L.blk_cell i1 0
      have r1 : wr.cell? ⟨rb, 1, none⟩ = some (.int .i64 0) := L.blk_cell i1 1
      have r2 : wr.cell? ⟨rb, 2, none⟩ = some (.int .u64 0) := L.blk_cell i1 2
      have r3 : wr.cell? ⟨rb, 3, none⟩ = some (.bool false) := L.blk_cell i1 3
      have z0 := L.blk_free i1 0
      have z1 := L.blk_free i1 1
      have z2 := L.blk_free i1 2
      have z3 := L.blk_free i1 3
      have H1 := Lib.hid i1
      have H3 := Lib.hid i3
      clear hfl i1 i3 i5 HI
      go_wp2_with fail
      clear r0 r1 r2 r3 z0 z1 z2 z3
      obtain ⟨W4, hW4⟩ : ∃ W4 : World, W4 = (((wr.setCell ⟨rb, 0, none⟩ (.string ⟨#[]⟩)).setCell ⟨rb, 1, none⟩ (.int .i64 0)).setCell ⟨rb, 2, none⟩ (.int .u64 0)).setCell ⟨rb, 3, none⟩ (.bool false) := ⟨_, rfl⟩
      have hf : W4.heap[rb]? = some (.cells #[.string ⟨#[]⟩, .int .i64 0, .int .u64 0, .bool false] 72 (0, 0)) := by
        rw [hW4]
        exact L.blk_set (L.blk_set (L.blk_set (L.blk_set H1.out 0 (.string ⟨#[]⟩)) 1 (.int .i64 0)) 2 (.int .u64 0)) 3 (.bool false)
      have hbf : Below w.heap.size w W4 := by
        rw [hW4]
        exact (((H3.out.setCell (p := ⟨rb, 0, none⟩) (Nat.le_of_lt n6) _).setCell (p := ⟨rb, 1, none⟩) (Nat.le_of_lt n6) _).setCell (p := ⟨rb, 2, none⟩) (Nat.le_of_lt n6) _).setCell (p := ⟨rb, 3, none⟩) (Nat.le_of_lt n6) _
      rw [← hW4]
      clear hW4
      have q0 : W4.cell? ⟨rb, 0, none⟩ = some (.string ⟨#[]⟩) := L.blk_cell hf 0
      have q1 : W4.cell? ⟨rb, 1, none⟩ = some (.int .i64 0) := L.blk_cell hf 1
      have q2 : W4.cell? ⟨rb, 2, none⟩ = some (.int .u64 0) := L.blk_cell hf 2
      have q3 : W4.cell? ⟨rb, 3, none⟩ = some (.bool false) := L.blk_cell hf 3
      refine bodyPost_ret (v := .tuple #[.agg #[.string ⟨#[]⟩, .int .i64 0, .int .u64 0, .bool false], .bool false]) (by simp [results, Tryd.results39, go_sem, q0, q1, q2, q3]) rfl ⟨?_, hbf⟩
      rw [HFL.out]
      rfl
end Go.Proofs.YtadhhamfikpimaaDoor.O
