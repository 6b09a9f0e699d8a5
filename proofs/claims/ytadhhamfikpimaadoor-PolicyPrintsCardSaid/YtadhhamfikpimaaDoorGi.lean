/-
  Plain facts on the order of labels.
  Users and floors in memory, wherever they lie; the contract of policy's Floor.
  The contracts of policy's Find, and of known.take.
  The contract of known.take: is a name new, and right, and does its label fit?
  The contracts of policy's right and Check.
-/
import Derived.Test.YtadhhamfikpimaaDoorGb
import Derived.Test.YtadhhamfikpimaaDoorGh
namespace Go.Proofs.YtadhhamfikpimaaDoor.L

theorem sub_iff (c d : Nat) : c ||| d = d ↔ ∀ i, c.testBit i = true → d.testBit i = true := by
  constructor
  · intro h i hi
    rw [← h, Nat.testBit_or, hi]; rfl
  · intro h
    apply Nat.eq_of_testBit_eq
    intro i
    rw [Nat.testBit_or]
    cases hb : c.testBit i with
    | false => simp
    | true => rw [h i hb]; rfl
theorem below_iff (l m : Int) (c d : Nat) : belowB l c m d = true ↔ l ≤ m ∧ ∀ i, c.testBit i = true → d.testBit i = true := by
  unfold belowB
  rw [Bool.and_eq_true, decide_eq_true_iff, beq_iff_eq, sub_iff]
theorem below_meet (n l m : Int) (e c d : Nat) (h : belowB n e l c = true) : belowB n e m d = belowB n e (min l m) (c &&& d) := by
  rw [below_iff] at h
  rw [Bool.eq_iff_iff, below_iff, below_iff]
  constructor
  · rintro ⟨h1, h2⟩
    exact ⟨by omega, fun i hi => by rw [Nat.testBit_and, h.2 i hi, h2 i hi]; rfl⟩
  · rintro ⟨h1, h2⟩
    refine ⟨by omega, fun i hi => ?_⟩
    have := h2 i hi
    rw [Nat.testBit_and, Bool.and_eq_true] at this
    exact this.2
theorem below_join (l m n : Int) (c d e : Nat) : belowB (max l m) (c ||| d) n e = (belowB l c n e && belowB m d n e) := by
  rw [Bool.eq_iff_iff, Bool.and_eq_true, below_iff, below_iff, below_iff]
  constructor
  · rintro ⟨h1, h2⟩
    exact ⟨⟨by omega, fun i hi => h2 i (by rw [Nat.testBit_or, hi]; rfl)⟩, by omega, fun i hi => h2 i (by rw [Nat.testBit_or, hi, Bool.or_true])⟩
  · rintro ⟨⟨h1, h2⟩, h3, h4⟩
    refine ⟨by omega, fun i hi => ?_⟩
    rw [Nat.testBit_or, Bool.or_eq_true] at hi
    rcases hi with hi | hi
    · exact h2 i hi
    · exact h4 i hi
theorem and_of_or (c d : Nat) : c ||| d = d ↔ c &&& d = c := by
  rw [sub_iff]
  constructor
  · intro h
    apply Nat.eq_of_testBit_eq
    intro i
    rw [Nat.testBit_and]
    cases hb : c.testBit i with
    | false => rfl
    | true => rw [h i hb]; rfl
  · intro h i hi
    rw [← h, Nat.testBit_and, Bool.and_eq_true] at hi
    exact hi.2
theorem below_refl (l : Int) (c : Nat) : belowB l c l c = true := (below_iff _ _ _ _).2 ⟨Int.le_refl _, fun _ h => h⟩
theorem below_trans {l m n : Int} {c d e : Nat} (h : belowB l c m d = true) (h' : belowB m d n e = true) : belowB l c n e = true := by
  rw [below_iff] at h h' ⊢
  exact ⟨Int.le_trans h.1 h'.1, fun i hi => h'.2 i (h.2 i hi)⟩
theorem below_anti {l m : Int} {c d : Nat} (h : belowB l c m d = true) (h' : belowB m d l c = true) : l = m ∧ c = d := by
  rw [below_iff] at h h'
  refine ⟨Int.le_antisymm h.1 h'.1, Nat.eq_of_testBit_eq fun i => ?_⟩
  cases hb : c.testBit i with
  | true => rw [h.2 i hb]
  | false =>
    cases hd : d.testBit i with
    | true => rw [h'.2 i hd] at hb; cases hb
    | false => rfl
theorem below_j1 (l m : Int) (c d : Nat) : belowB l c (max l m) (c ||| d) = true := (below_iff _ _ _ _).2 ⟨by omega, fun i hi => by rw [Nat.testBit_or, hi]; rfl⟩
theorem below_j2 (l m : Int) (c d : Nat) : belowB m d (max l m) (c ||| d) = true := (below_iff _ _ _ _).2 ⟨by omega, fun i hi => by rw [Nat.testBit_or, hi, Bool.or_true]⟩
theorem below_m1 (l m : Int) (c d : Nat) : belowB (min l m) (c &&& d) l c = true := (below_iff _ _ _ _).2 ⟨by omega, fun i hi => by rw [Nat.testBit_and, Bool.and_eq_true] at hi; exact hi.1⟩
theorem below_m2 (l m : Int) (c d : Nat) : belowB (min l m) (c &&& d) m d = true := (below_iff _ _ _ _).2 ⟨by omega, fun i hi => by rw [Nat.testBit_and, Bool.and_eq_true] at hi; exact hi.2⟩
theorem below_bot {l : Int} (c : Nat) (h : 0 ≤ l) : belowB 0 0 l c = true := (below_iff _ _ _ _).2 ⟨h, fun i hi => by simp at hi⟩
theorem below_top {l : Int} {c : Nat} (h : l ≤ 15) (hc : c < 18446744073709551616) : belowB l c 15 18446744073709551615 = true := by
  refine (below_iff _ _ _ _).2 ⟨h, fun i hi => ?_⟩
  have hi64 : i < 64 := by
    rcases Nat.lt_or_ge i 64 with h | h
    · exact h
    · rw [Nat.testBit_lt_two_pow (Nat.lt_of_lt_of_le hc (Nat.pow_le_pow_right (n := 2) (by omega) h))] at hi
      cases hi
  rw [show 18446744073709551615 = 2 ^ 64 - 1 by rfl, Nat.testBit_two_pow_sub_one]
  simpa using hi64
end Go.Proofs.YtadhhamfikpimaaDoor.L

namespace Go.Proofs.YtadhhamfikpimaaDoor.O
set_option linter.unusedVariables false
set_option linter.unusedSimpArgs false
open Go.RowKit
open T

def UsersIn (w : World) (A : Option Addr) (us : List Usr) : Prop :=
  0 < us.length → ∃ bk off, A = some ⟨bk, off, none⟩ ∧ bk < w.heap.size ∧ ∀ j (h : j < us.length), w.cell? ⟨bk, off + j * 4, none⟩ = some (.string ⟨us[j].name.toArray⟩) ∧ w.cell? ⟨bk, off + j * 4 + 1, none⟩ = some (.int .i64 us[j].lv) ∧ w.cell? ⟨bk, off + j * 4 + 2, none⟩ = some (.int .u64 (us[j].ct : Int)) ∧ w.cell? ⟨bk, off + j * 4 + 3, none⟩ = some (.bool us[j].ad)
def FloorsIn (w : World) (A : Option Addr) (fs : List Flr) : Prop :=
  0 < fs.length → ∃ bk off, A = some ⟨bk, off, none⟩ ∧ bk < w.heap.size ∧ ∀ j (h : j < fs.length), w.cell? ⟨bk, off + j * 3, none⟩ = some (.string ⟨fs[j].pre.toArray⟩) ∧ w.cell? ⟨bk, off + j * 3 + 1, none⟩ = some (.int .i64 fs[j].lv) ∧ w.cell? ⟨bk, off + j * 3 + 2, none⟩ = some (.int .u64 (fs[j].ct : Int))
theorem UsersIn.below {w w' : World} {A : Option Addr} {us : List Usr} (h : UsersIn w A us) (hb : Below w.heap.size w w') : UsersIn w' A us := fun hp => by
  obtain ⟨bk, off, e, hlt, hl⟩ := h hp
  exact ⟨bk, off, e, Nat.lt_of_lt_of_le hlt hb.size, fun j hj => ⟨(hb.cell (p := ⟨bk, _, none⟩) hlt).trans (hl j hj).1, (hb.cell (p := ⟨bk, _, none⟩) hlt).trans (hl j hj).2.1, (hb.cell (p := ⟨bk, _, none⟩) hlt).trans (hl j hj).2.2.1, (hb.cell (p := ⟨bk, _, none⟩) hlt).trans (hl j hj).2.2.2⟩⟩
theorem FloorsIn.below {w w' : World} {A : Option Addr} {fs : List Flr} (h : FloorsIn w A fs) (hb : Below w.heap.size w w') : FloorsIn w' A fs := fun hp => by
  obtain ⟨bk, off, e, hlt, hl⟩ := h hp
  exact ⟨bk, off, e, Nat.lt_of_lt_of_le hlt hb.size, fun j hj => ⟨(hb.cell (p := ⟨bk, _, none⟩) hlt).trans (hl j hj).1, (hb.cell (p := ⟨bk, _, none⟩) hlt).trans (hl j hj).2.1, (hb.cell (p := ⟨bk, _, none⟩) hlt).trans (hl j hj).2.2⟩⟩
theorem usrCells_at : ∀ (us : List Usr) (j : Nat) (h : j < us.length), (usrCells us)[j * 4]? = some (.string ⟨us[j].name.toArray⟩) ∧ (usrCells us)[j * 4 + 1]? = some (.int .i64 us[j].lv) ∧ (usrCells us)[j * 4 + 2]? = some (.int .u64 (us[j].ct : Int)) ∧ (usrCells us)[j * 4 + 3]? = some (.bool us[j].ad)
  | u :: r, 0, _ => by simp [usrCells]
  | u :: r, j + 1, h => by
    have ih := usrCells_at r j (by simpa using h)
    have e : usrCells (u :: r) = .string ⟨u.name.toArray⟩ :: .int .i64 u.lv :: .int .u64 (u.ct : Int) :: .bool u.ad :: usrCells r := by simp [usrCells]
    rw [e, show (j + 1) * 4 = j * 4 + 1 + 1 + 1 + 1 by omega]
    simpa using ih
theorem flrCells_at : ∀ (fs : List Flr) (j : Nat) (h : j < fs.length), (flrCells fs)[j * 3]? = some (.string ⟨fs[j].pre.toArray⟩) ∧ (flrCells fs)[j * 3 + 1]? = some (.int .i64 fs[j].lv) ∧ (flrCells fs)[j * 3 + 2]? = some (.int .u64 (fs[j].ct : Int))
  | u :: r, 0, _ => by simp [flrCells]
  | u :: r, j + 1, h => by
    have ih := flrCells_at r j (by simpa using h)
    have e : flrCells (u :: r) = .string ⟨u.pre.toArray⟩ :: .int .i64 u.lv :: .int .u64 (u.ct : Int) :: flrCells r := by simp [flrCells]
    rw [e, show (j + 1) * 3 = j * 3 + 1 + 1 + 1 by omega]
    simpa using ih
theorem users_of_own {w : World} {base : Nat} {v : Value} {us : List Usr} (h : w.ownsRow base 72 4 v us.length (usrCells us)) : ∃ A cap, v = .slice A us.length cap ∧ UsersIn w A us := by
  obtain ⟨A, cap, hv, hc, hA⟩ := own_form h
  refine ⟨A, cap, hv, fun hp => ?_⟩
  obtain ⟨g, rfl, _, hlt, hcells⟩ := hA hp
  exact ⟨g, 0, rfl, hlt, fun j hj => by simp only [Nat.zero_add]; exact ⟨hcells _ _ (usrCells_at us j hj).1, hcells _ _ (usrCells_at us j hj).2.1, hcells _ _ (usrCells_at us j hj).2.2.1, hcells _ _ (usrCells_at us j hj).2.2.2⟩⟩
theorem floors_of_own {w : World} {base : Nat} {v : Value} {fs : List Flr} (h : w.ownsRow base 76 3 v fs.length (flrCells fs)) : ∃ A cap, v = .slice A fs.length cap ∧ FloorsIn w A fs := by
  obtain ⟨A, cap, hv, hc, hA⟩ := own_form h
  refine ⟨A, cap, hv, fun hp => ?_⟩
  obtain ⟨g, rfl, _, hlt, hcells⟩ := hA hp
  exact ⟨g, 0, rfl, hlt, fun j hj => by simp only [Nat.zero_add]; exact ⟨hcells _ _ (flrCells_at fs j hj).1, hcells _ _ (flrCells_at fs j hj).2.1, hcells _ _ (flrCells_at fs j hj).2.2⟩⟩

theorem three_blocks (w : World) (a b c : Obj) : (((w.alloc a).alloc b).alloc c).heap[w.heap.size + 1]? = some b ∧ (((w.alloc a).alloc b).alloc c).heap[w.heap.size + 1 + 1]? = some c ∧ Below w.heap.size w (((w.alloc a).alloc b).alloc c) := by
  obtain ⟨w1, h1⟩ : ∃ w1, w1 = w.alloc a := ⟨_, rfl⟩
  obtain ⟨w2, h2⟩ : ∃ w2, w2 = w1.alloc b := ⟨_, rfl⟩
  have s1 : w1.heap.size = w.heap.size + 1 := by rw [h1]; simp
  have s2 : w2.heap.size = w.heap.size + 1 + 1 := by rw [h2]; simp; omega
  have p2 : w2.heap[w.heap.size + 1]? = some b := by rw [h2, ← s1]; exact heap_alloc_new w1 _
  rw [← h1, ← h2]
  refine ⟨(Below.heap_alloc w2 c _ (by omega)).trans p2, by rw [← s2]; exact heap_alloc_new w2 c, ?_⟩
  rw [h2, h1]
  exact L.three w a b c
/-- A file's floor, on from a label. -/
def floorOn (nm : List UInt8) (a : Int × Nat) : List Flr → Int × Nat
  | [] => a
  | f :: r => floorOn nm (if f.pre <+: nm then (max a.1 f.lv, a.2 ||| f.ct) else a) r
theorem floorOn_take {nm : List UInt8} {fs : List Flr} {k : Nat} (hk : k < fs.length) (a : Int × Nat) : floorOn nm a (fs.drop k) = floorOn nm (if fs[k].pre <+: nm then (max a.1 fs[k].lv, a.2 ||| fs[k].ct) else a) (fs.drop (k + 1)) := by
  rw [List.drop_eq_getElem_cons hk, floorOn]
def Pref (x y : ByteArray) (b : Bool) : Prop := ∀ w : World, Calls Tryd.prog 48 #[.string x, .string y] w fun e w' => e = .returned (.bool b) ∧ w = w'
theorem Pref.call {x y : ByteArray} {b : Bool} (h : Pref x y b) (w : World) : Calls Tryd.prog 48 #[.string x, .string y] w fun e w' => e = .returned (.bool b) ∧ w = w' := h w
theorem pref_is (x : ByteArray) (p : List UInt8) : Pref x ⟨p.toArray⟩ (decide (p <+: x.data.toList)) := fun w => (Tryd.strings_HasPrefix x ⟨p.toArray⟩ w).mono fun e w' he => ⟨by
  rw [he.1, list_data]
  congr 2
  unfold Lib.hasPrefix
  rw [Bool.eq_iff_iff, List.isPrefixOf_iff_prefix, decide_eq_true_iff], he.2.symm⟩

set_option maxRecDepth 100000 in
set_option maxHeartbeats 4000000 in
theorem floor_any (n0 n1 n2 n3 n4 n5 : Int) (hid : ByteArray) (uA fA : Option Addr) (un ucap fcap : Nat) (fs : List Flr) (x : ByteArray) (w : World) (hF : FloorsIn w fA fs) (hct : ∀ f ∈ fs, f.ct < 18446744073709551616) (hlen : fs.length ≤ maxLen) :
    Calls Tryd.prog 21 #[polA n0 n1 n2 n3 n4 n5 hid (.slice uA un ucap) (.slice fA fs.length fcap), .string x] w fun e w' => e = .returned (L.lab (floorOn x.data.toList (0, 0) fs).1 (floorOn x.data.toList (0, 0) fs).2) ∧ Below w.heap.size w w' := by
  unfold maxLen at hlen
  have HF := Lib.hid hF
  have HCT := Lib.hid hct
  clear hF hct
  go_enter Tryd.func21, Tryd.ntmps21
  go_wp2_with fail
  obtain ⟨s2, s1', s3⟩ := three_blocks w (.cells #[.int .i64 n0, .int .i64 n1, .int .i64 n2, .int .i64 n3, .int .i64 n4, .int .i64 n5, .string hid, .slice uA un ucap, .slice fA fs.length fcap] 26) (.cells #[.int .i64 0, .int .u64 0] 40) (.cells #[.int .i64 0, .int .u64 0] 40)
  generalize ((w.alloc (Obj.cells #[.int .i64 n0, .int .i64 n1, .int .i64 n2, .int .i64 n3, .int .i64 n4, .int .i64 n5, .string hid, .slice uA un ucap, .slice fA fs.length fcap] 26)).alloc (.cells #[.int .i64 0, .int .u64 0] 40)).alloc (.cells #[.int .i64 0, .int .u64 0] 40) = wB at s2 s3 s1' ⊢
  generalize hab : w.heap.size + 1 + 1 = ab at *
  generalize hrb : w.heap.size + 1 = rb at *
  have n6 : w.heap.size < rb := by omega
  have n7 : rb < ab := by omega
  have dne : ¬ rb = ab := by omega
  have dne' : ¬ ab = rb := by omega
  clear hab hrb
  have S1 := Lib.hid s1'
  have S2 := Lib.hid s2
  have S3 := Lib.hid s3
  clear s1' s2 s3
  go_loopg [11] fs.length (fun m i wr => ∃ (k : Nat) (a : Int) (c : Nat), k ≤ fs.length ∧ i = .int .i64 k ∧ fs.length - k ≤ m ∧ Hid (wr.heap[rb]? = some (.cells #[.int .i64 0, .int .u64 0] 40 (0, 0)) ∧ wr.heap[ab]? = some (.cells #[.int .i64 a, .int .u64 (c : Int)] 40 (0, 0)) ∧ Below w.heap.size w wr ∧ c < 18446744073709551616 ∧ floorOn x.data.toList (0, 0) fs = floorOn x.data.toList (a, c) (fs.drop k)))
  case atStart => exact ⟨0, 0, 0, Nat.zero_le _, rfl, by omega, Lib.hid ⟨S2.out, S1.out, S3.out, by omega, rfl⟩⟩
  case round =>
    obtain ⟨k, a, c, hk, rfl, hm, HI⟩ := hrel
    obtain ⟨i1, i2, i3, i4, i5⟩ := HI.out
    by_cases hlt : k < fs.length
    · obtain ⟨bk, off, hAe, hbk, hB⟩ := HF.out (by omega)
      subst hAe
      obtain ⟨c0, c1, c2⟩ := hB k hlt
      have c0' := (i3.cell (p := ⟨bk, _, none⟩) hbk).trans c0
      have c1' := (i3.cell (p := ⟨bk, _, none⟩) hbk).trans c1
      have c2' := (i3.cell (p := ⟨bk, _, none⟩) hbk).trans c2
      have hpr := pref_is x fs[k].pre
      have hcc := HCT.out _ (List.getElem_mem hlt)
      have hst := floorOn_take (nm := x.data.toList) hlt (a, c)
      rw [i5] at *
      generalize hfk : fs[k] = fk at *
      obtain ⟨fp, fl, fc⟩ := fk
      clear hfk c0 c1 c2 hB
      simp only at c0' c1' c2' hpr hcc hst
      obtain ⟨xp, hxp⟩ : ∃ y : ByteArray, y = ⟨fp.toArray⟩ := ⟨_, rfl⟩
      rw [← hxp] at c0' hpr
      clear hxp
      have h0k : (0 : Int) ≤ (k : Int) := by omega
      have hki : (k : Int) < (fs.length : Int) := by omega
      have hb1 : Below wr.heap.size wr (wr.alloc (.cells #[.string xp, .int .i64 fl, .int .u64 (fc : Int)] 76)) := (Below.refl _ _).alloc (Nat.le_refl _) _
      have j1 := (hb1.block rb (L.blk_lt i1)).trans i1
      have j2 := (hb1.block ab (L.blk_lt i2)).trans i2
      have j3 := i3.trans (hb1.mono i3.size)
      obtain ⟨d0, d1⟩ := lab_cells j2
      by_cases hpre : fp <+: x.data.toList
      · rw [decide_eq_true hpre] at hpr
        rw [if_pos hpre] at hst
        have HPR := Lib.hid hpr
        have HJ1 := Lib.hid j1
        have HJ2 := Lib.hid j2
        have HJ3 := Lib.hid j3
        have HST := Lib.hid hst
        have hor := L.or_small i4 hcc
        clear hpr hst i1 i2 i3 i5 HI j1 j2 j3 hb1 hpre
        go_wp2_with fail
        with_reducible refine (HPR.out.call _).mono ?_
        rintro e w' ⟨rfl, rfl⟩
        clear c0' c1' c2'
        go_wp2_with fail
        with_reducible refine (L.join_any _ _ _ _ _ i4 hcc).mono ?_
        rintro e w2 ⟨rfl, hb2⟩
        have k1 := (hb2.block rb (L.blk_lt HJ1.out)).trans HJ1.out
        have k2 := (hb2.block ab (L.blk_lt HJ2.out)).trans HJ2.out
        have k3 := HJ3.out.trans (hb2.mono HJ3.out.size)
        obtain ⟨f0, f1⟩ := lab_cells k2
        have z0 := L.blk_free k2 0
        have z1 := L.blk_free k2 1
        have e1 := L.blk_set k2 0 (.int .i64 (max a fl))
        have e2 := L.blk_set e1 1 (.int .u64 ((c ||| fc : Nat) : Int))
        have e3 : Below w.heap.size w ((w2.setCell ⟨ab, 0, none⟩ (.int .i64 (max a fl))).setCell ⟨ab, 1, none⟩ (.int .u64 ((c ||| fc : Nat) : Int))) := (k3.setCell (p := ⟨ab, 0, none⟩) (by show _ ≤ ab; omega) _).setCell (p := ⟨ab, 1, none⟩) (by show _ ≤ ab; omega) _
        have e4 : ((w2.setCell ⟨ab, 0, none⟩ (.int .i64 (max a fl))).setCell ⟨ab, 1, none⟩ (.int .u64 ((c ||| fc : Nat) : Int))).heap[rb]? = some (.cells #[.int .i64 0, .int .u64 0] 40 (0, 0)) := (L.blk_far dne _).trans ((L.blk_far dne _).trans k1)
        have HI2 := Lib.hid (show _ ∧ _ ∧ _ ∧ _ ∧ _ from ⟨e4, e2, e3, hor, HST.out⟩)
        clear HPR HJ1 HJ2 HJ3 HST k1 k2 k3 e1 e2 e3 e4 hb2 d0 d1
        go_wp2_with fail
        go_roundg (fs.length - (k + 1))
        case rel => exact ⟨k + 1, max a fl, c ||| fc, by omega, by go_num, Nat.le_refl _, HI2⟩
        case measure => omega
      · rw [decide_eq_false hpre] at hpr
        rw [if_neg hpre] at hst
        have HPR := Lib.hid hpr
        have HI2 := Lib.hid (show _ ∧ _ ∧ _ ∧ _ ∧ _ from ⟨j1, j2, j3, i4, hst⟩)
        clear hpr hst i1 i2 i3 i4 i5 HI j1 j2 j3 hb1 hpre hcc
        go_wp2_with fail
        with_reducible refine (HPR.out.call _).mono ?_
        rintro e w' ⟨rfl, rfl⟩
        clear c0' c1' c2' d0 d1
        go_wp2_with fail
        go_roundg (fs.length - (k + 1))
        case rel => exact ⟨k + 1, a, c, by omega, by go_num, Nat.le_refl _, HI2⟩
        case measure => omega
    · have hfl : floorOn x.data.toList (0, 0) fs = (a, c) := by rw [i5, List.drop_eq_nil_of_le (by omega)]; rfl
      have HFL := Lib.hid hfl
      obtain ⟨f0, f1⟩ := lab_cells i2
      obtain ⟨r0, r1⟩ := lab_cells i1
      have z0 := L.blk_free i1 0
      have z1 := L.blk_free i1 1
      have H1 := Lib.hid i1
      have H3 := Lib.hid i3
      clear hfl i1 i2 i3 i4 i5 HI
      go_wp2_with fail
      have e1 := L.blk_set H1.out 0 (.int .i64 a)
      have e2 := L.blk_set e1 1 (.int .u64 (c : Int))
      have q0 : (wr.setCell ⟨rb, 0, none⟩ (.int .i64 a)).cell? ⟨rb, 0, none⟩ = some (.int .i64 a) := L.blk_cell e1 0
      have q1 : ((wr.setCell ⟨rb, 0, none⟩ (.int .i64 a)).setCell ⟨rb, 1, none⟩ (.int .u64 (c : Int))).cell? ⟨rb, 1, none⟩ = some (.int .u64 (c : Int)) := L.blk_cell e2 1
      refine bodyPost_ret (v := L.lab a c) (by simp [results, Tryd.results21, go_sem, q0, q1]) rfl ⟨by rw [HFL.out], ?_⟩
      exact (H3.out.setCell (p := ⟨rb, 0, none⟩) (Nat.le_of_lt n6) _).setCell (p := ⟨rb, 1, none⟩) (Nat.le_of_lt n6) _
end Go.Proofs.YtadhhamfikpimaaDoor.O

namespace Go.Proofs.YtadhhamfikpimaaDoor.O
set_option linter.unusedVariables false
set_option linter.unusedSimpArgs false
open Go.RowKit
open T

def usrA (u : Usr) : Value := .agg #[.string ⟨u.name.toArray⟩, .int .i64 u.lv, .int .u64 (u.ct : Int), .bool u.ad]
def findVal (o : Option Usr) : Value := match o with
  | some u => .tuple #[usrA u, .bool true]
  | none => .tuple #[.agg #[.string ⟨#[]⟩, .int .i64 0, .int .u64 0, .bool false], .bool false]
theorem find_hit {us : List Usr} {k : Nat} {nm : List UInt8} (hk : k < us.length) (h : us[k].name = nm) : (us.drop k).find? (fun u => decide (u.name = nm)) = some us[k] := by
  rw [List.drop_eq_getElem_cons hk, List.find?_cons_of_pos (by simpa using h)]
theorem find_miss {us : List Usr} {k : Nat} {nm : List UInt8} (hk : k < us.length) (h : us[k].name ≠ nm) : (us.drop k).find? (fun u => decide (u.name = nm)) = (us.drop (k + 1)).find? (fun u => decide (u.name = nm)) := by
  rw [List.drop_eq_getElem_cons hk, List.find?_cons_of_neg (by simpa using h)]
theorem two_blocks' (w : World) (a b : Obj) : ((w.alloc a).alloc b).heap[w.heap.size + 1]? = some b ∧ Below w.heap.size w ((w.alloc a).alloc b) := by
  obtain ⟨w1, h1⟩ : ∃ w1, w1 = w.alloc a := ⟨_, rfl⟩
  have s1 : w1.heap.size = w.heap.size + 1 := by rw [h1]; simp
  rw [← h1]
  refine ⟨by rw [← s1]; exact heap_alloc_new w1 b, ?_⟩
  rw [h1]
  exact two_new w a b
theorem str_bytes (a : List UInt8) (x : ByteArray) : ((⟨a.toArray⟩ : ByteArray).toList == x.toList) = decide (a = x.data.toList) := by
  rw [Lib.toList_data, Lib.toList_data, list_data]
  by_cases h : a = x.data.toList <;> simp [h]

set_option maxRecDepth 100000 in
set_option maxHeartbeats 4000000 in
theorem find_any (n0 n1 n2 n3 n4 n5 : Int) (hid : ByteArray) (uA fA : Option Addr) (ucap fn fcap : Nat) (us : List Usr) (x : ByteArray) (w : World) (hU : UsersIn w uA us) (hlen : us.length ≤ maxLen) :
    Calls Tryd.prog 39 #[polA n0 n1 n2 n3 n4 n5 hid (.slice uA us.length ucap) (.slice fA fn fcap), .string x] w fun e w' => e = .returned (findVal (us.find? fun u => decide (u.name = x.data.toList))) ∧ Below w.heap.size w w' := by
  unfold maxLen at hlen
  have HU := Lib.hid hU
  clear hU
  go_enter Tryd.func39, Tryd.ntmps39
  go_wp2_with fail
  obtain ⟨s1, s2⟩ := two_blocks' w (.cells #[.int .i64 n0, .int .i64 n1, .int .i64 n2, .int .i64 n3, .int .i64 n4, .int .i64 n5, .string hid, .slice uA us.length ucap, .slice fA fn fcap] 26) (.cells #[.string ⟨#[]⟩, .int .i64 0, .int .u64 0, .bool false] 72)
  generalize (w.alloc (Obj.cells #[.int .i64 n0, .int .i64 n1, .int .i64 n2, .int .i64 n3, .int .i64 n4, .int .i64 n5, .string hid, .slice uA us.length ucap, .slice fA fn fcap] 26)).alloc (.cells #[.string ⟨#[]⟩, .int .i64 0, .int .u64 0, .bool false] 72) = wB at s1 s2 ⊢
  generalize hrb : w.heap.size + 1 = rb at *
  have n6 : w.heap.size < rb := by omega
  clear hrb
  have S1 := Lib.hid s1
  have S2 := Lib.hid s2
  clear s1 s2
  go_loopg [11] us.length (fun m i wr => ∃ (k : Nat), k ≤ us.length ∧ i = .int .i64 k ∧ us.length - k ≤ m ∧ Hid (wr.heap[rb]? = some (.cells #[.string ⟨#[]⟩, .int .i64 0, .int .u64 0, .bool false] 72 (0, 0)) ∧ Below w.heap.size w wr ∧ (us.find? fun u => decide (u.name = x.data.toList)) = (us.drop k).find? (fun u => decide (u.name = x.data.toList))))
  case atStart => exact ⟨0, Nat.zero_le _, rfl, by omega, Lib.hid ⟨S1.out, S2.out, rfl⟩⟩
  case round =>
    obtain ⟨k, hk, rfl, hm, HI⟩ := hrel
    obtain ⟨i1, i3, i5⟩ := HI.out
    by_cases hlt : k < us.length
    · obtain ⟨bk, off, hAe, hbk, hB⟩ := HU.out (by omega)
      subst hAe
      obtain ⟨c0, c1, c2, c3⟩ := hB k hlt
      have c0' := (i3.cell (p := ⟨bk, _, none⟩) hbk).trans c0
      have c1' := (i3.cell (p := ⟨bk, _, none⟩) hbk).trans c1
      have c2' := (i3.cell (p := ⟨bk, _, none⟩) hbk).trans c2
      have c3' := (i3.cell (p := ⟨bk, _, none⟩) hbk).trans c3
      have hq := str_bytes us[k].name x
      have HH : us[k].name = x.data.toList → _ := find_hit (nm := x.data.toList) hlt
      have HM : us[k].name ≠ x.data.toList → _ := find_miss (nm := x.data.toList) hlt
      have HH := Lib.hid HH
      have HM := Lib.hid HM
      generalize hfk : us[k] = uk at *
      obtain ⟨un', ul, uc, ua⟩ := uk
      clear hfk c0 c1 c2 c3 hB
      simp only at c0' c1' c2' c3' hq
      obtain ⟨xp, hxp⟩ : ∃ y : ByteArray, y = ⟨un'.toArray⟩ := ⟨_, rfl⟩
      rw [← hxp] at c0' hq
      have HXP := Lib.hid hxp
      clear hxp
      have h0k : (0 : Int) ≤ (k : Int) := by omega
      have hki : (k : Int) < (us.length : Int) := by omega
      have hb1 : Below wr.heap.size wr (wr.alloc (.cells #[.string xp, .int .i64 ul, .int .u64 (uc : Int), .bool ua] 72)) := (Below.refl _ _).alloc (Nat.le_refl _) _
      have j1 := (hb1.block rb (L.blk_lt i1)).trans i1
      have j3 := i3.trans (hb1.mono i3.size)
      by_cases hpre : un' = x.data.toList
      · rw [decide_eq_true hpre] at hq
        have hr := i5.trans (HH.out hpre)
        have r0 : (wr.alloc (.cells #[.string xp, .int .i64 ul, .int .u64 (uc : Int), .bool ua] 72)).cell? ⟨rb, 0, none⟩ = some (.string ⟨#[]⟩) := L.blk_cell j1 0
        have r1 : (wr.alloc (.cells #[.string xp, .int .i64 ul, .int .u64 (uc : Int), .bool ua] 72)).cell? ⟨rb, 1, none⟩ = some (.int .i64 0) := L.blk_cell j1 1
        have r2 : (wr.alloc (.cells #[.string xp, .int .i64 ul, .int .u64 (uc : Int), .bool ua] 72)).cell? ⟨rb, 2, none⟩ = some (.int .u64 0) := L.blk_cell j1 2
        have r3 : (wr.alloc (.cells #[.string xp, .int .i64 ul, .int .u64 (uc : Int), .bool ua] 72)).cell? ⟨rb, 3, none⟩ = some (.bool false) := L.blk_cell j1 3
        have z0 := L.blk_free j1 0
        have z1 := L.blk_free j1 1
        have z2 := L.blk_free j1 2
        have z3 := L.blk_free j1 3
        have HJ1 := Lib.hid j1
        have HJ3 := Lib.hid j3
        have HR := Lib.hid hr
        clear hr i1 i3 i5 HI j1 j3 hb1 hpre HH HM
        go_wp2_with fail
        clear r0 r1 r2 r3 z0 z1 z2 z3 c0' c1' c2' c3'
        obtain ⟨W0, hW0⟩ : ∃ W0 : World, W0 = wr.alloc (.cells #[.string xp, .int .i64 ul, .int .u64 (uc : Int), .bool ua] 72) := ⟨_, rfl⟩
        rw [← hW0] at HJ1 HJ3 ⊢
        clear hW0
        obtain ⟨W4, hW4⟩ : ∃ W4 : World, W4 = (((W0.setCell ⟨rb, 0, none⟩ (.string xp)).setCell ⟨rb, 1, none⟩ (.int .i64 ul)).setCell ⟨rb, 2, none⟩ (.int .u64 (uc : Int))).setCell ⟨rb, 3, none⟩ (.bool ua) := ⟨_, rfl⟩
        have hf : W4.heap[rb]? = some (.cells #[.string xp, .int .i64 ul, .int .u64 (uc : Int), .bool ua] 72 (0, 0)) := by
          rw [hW4]
          exact L.blk_set (L.blk_set (L.blk_set (L.blk_set HJ1.out 0 (.string xp)) 1 (.int .i64 ul)) 2 (.int .u64 (uc : Int))) 3 (.bool ua)
        have hbf : Below w.heap.size w W4 := by
          rw [hW4]
          exact (((HJ3.out.setCell (p := ⟨rb, 0, none⟩) (Nat.le_of_lt n6) _).setCell (p := ⟨rb, 1, none⟩) (Nat.le_of_lt n6) _).setCell (p := ⟨rb, 2, none⟩) (Nat.le_of_lt n6) _).setCell (p := ⟨rb, 3, none⟩) (Nat.le_of_lt n6) _
        rw [← hW4]
        clear hW4
        have q0 : W4.cell? ⟨rb, 0, none⟩ = some (.string xp) := L.blk_cell hf 0
        have q1 : W4.cell? ⟨rb, 1, none⟩ = some (.int .i64 ul) := L.blk_cell hf 1
        have q2 : W4.cell? ⟨rb, 2, none⟩ = some (.int .u64 (uc : Int)) := L.blk_cell hf 2
        have q3 : W4.cell? ⟨rb, 3, none⟩ = some (.bool ua) := L.blk_cell hf 3
        refine bodyPost_ret (v := .tuple #[.agg #[.string xp, .int .i64 ul, .int .u64 (uc : Int), .bool ua], .bool true]) (by simp [results, Tryd.results39, go_sem, q0, q1, q2, q3]) rfl ⟨?_, hbf⟩
        rw [HR.out, HXP.out]
        rfl
      · rw [decide_eq_false hpre] at hq
        have HI2 := Lib.hid (show _ ∧ _ ∧ _ from ⟨j1, j3, i5.trans (HM.out hpre)⟩)
        clear i1 i3 i5 HI j1 j3 hb1 hpre HH HM HXP
        go_wp2_with fail
        go_roundg (us.length - (k + 1))
        case rel => exact ⟨k + 1, by omega, by go_num, Nat.le_refl _, HI2⟩
        case measure => omega
    · have hfl : (us.find? fun u => decide (u.name = x.data.toList)) = none := by rw [i5, List.drop_eq_nil_of_le (by omega)]; rfl
      have HFL := Lib.hid hfl
      have r0 : wr.cell? ⟨rb, 0, none⟩ = some (.string ⟨#[]⟩) := L.blk_cell i1 0
      have r1 : wr.cell? ⟨rb, 1, none⟩ = some (.int .i64 0) := L.blk_cell i1 1
      have r2 : wr.cell? ⟨rb, 2, none⟩ = some (.int .u64 0) := L.blk_cell i1 2
      have r3 : wr.cell? ⟨rb, 3, none⟩ = some (.bool false) := L.blk_cell i1 3
      have z0 := L.blk_free i1 0
      have z1 := L.blk_free i1 1
      have z2 := L.blk_free i1 2
      have z3 := L.blk_free i1 3
      have H1 := Lib.hid i1
      have H3 := Lib.hid i3
      clear hfl i1 i3 i5 HI
      go_wp2_with fail
      clear r0 r1 r2 r3 z0 z1 z2 z3
      obtain ⟨W4, hW4⟩ : ∃ W4 : World, W4 = (((wr.setCell ⟨rb, 0, none⟩ (.string ⟨#[]⟩)).setCell ⟨rb, 1, none⟩ (.int .i64 0)).setCell ⟨rb, 2, none⟩ (.int .u64 0)).setCell ⟨rb, 3, none⟩ (.bool false) := ⟨_, rfl⟩
      have hf : W4.heap[rb]? = some (.cells #[.string ⟨#[]⟩, .int .i64 0, .int .u64 0, .bool false] 72 (0, 0)) := by
        rw [hW4]
        exact L.blk_set (L.blk_set (L.blk_set (L.blk_set H1.out 0 (.string ⟨#[]⟩)) 1 (.int .i64 0)) 2 (.int .u64 0)) 3 (.bool false)
      have hbf : Below w.heap.size w W4 := by
        rw [hW4]
        exact (((H3.out.setCell (p := ⟨rb, 0, none⟩) (Nat.le_of_lt n6) _).setCell (p := ⟨rb, 1, none⟩) (Nat.le_of_lt n6) _).setCell (p := ⟨rb, 2, none⟩) (Nat.le_of_lt n6) _).setCell (p := ⟨rb, 3, none⟩) (Nat.le_of_lt n6) _
      rw [← hW4]
      clear hW4
      have q0 : W4.cell? ⟨rb, 0, none⟩ = some (.string ⟨#[]⟩) := L.blk_cell hf 0
      have q1 : W4.cell? ⟨rb, 1, none⟩ = some (.int .i64 0) := L.blk_cell hf 1
      have q2 : W4.cell? ⟨rb, 2, none⟩ = some (.int .u64 0) := L.blk_cell hf 2
      have q3 : W4.cell? ⟨rb, 3, none⟩ = some (.bool false) := L.blk_cell hf 3
      refine bodyPost_ret (v := .tuple #[.agg #[.string ⟨#[]⟩, .int .i64 0, .int .u64 0, .bool false], .bool false]) (by simp [results, Tryd.results39, go_sem, q0, q1, q2, q3]) rfl ⟨?_, hbf⟩
      rw [HFL.out]
      rfl
end Go.Proofs.YtadhhamfikpimaaDoor.O

namespace Go.Proofs.YtadhhamfikpimaaDoor.O
set_option linter.unusedVariables false
set_option linter.unusedSimpArgs false
open Go.RowKit
open T
variable {w w' : World} {mb n : Nat}

/-- A map that holds 1 at each name that was there, and nothing else. -/
def seenF (seen : List (List UInt8)) : List UInt8 → Int := fun x => if x ∈ seen then 1 else 0
theorem seenF_upd (seen : List (List UInt8)) (nm : List UInt8) : upd (seenF seen) nm 1 = seenF (seen ++ [nm]) := by
  funext x
  unfold upd seenF
  by_cases h : x = nm
  · simp [h]
  · simp [h]

set_option maxRecDepth 100000 in
set_option maxHeartbeats 2000000 in
theorem known_old (n0 n1 n2 n3 n4 n5 : Int) (hid : ByteArray) (uv fv : Value) (x : ByteArray) (hx : x.size ≤ maxLen) (l : Int) (k : Nat) (seen : List (List UInt8)) (hm : MapIs w mb n (seenF seen)) (hn : n < maxLen) (hs : x.data.toList ∈ seen) :
    Calls Tryd.prog 101 #[.map (some mb), polA n0 n1 n2 n3 n4 n5 hid uv fv, .string x, L.lab l k] w fun e w' => e = .returned (.bool false) ∧ w.grownBy w' (some mb) := by
  obtain ⟨W, hW⟩ : ∃ W : World, W = (w.alloc (.cells #[.int .i64 n0, .int .i64 n1, .int .i64 n2, .int .i64 n3, .int .i64 n4, .int .i64 n5, .string hid, uv, fv] 26)).alloc (.cells #[.int .i64 l, .int .u64 (k : Int)] 40) := ⟨_, rfl⟩
  have hbW : Below w.heap.size w W := by rw [hW]; exact two_new _ _ _
  have hmW := hm.kept (grown_of hbW none) (by simp)
  have hlk := hmW.look Tryd.underlying128 x hx
  rw [show seenF seen x.data.toList = 1 by simp [seenF, hs]] at hlk
  have HM := Lib.hid hmW
  have HBW := Lib.hid hbW
  clear hm hmW hbW
  go_enter Tryd.func101, Tryd.ntmps101
  rw [hW] at hlk
  go_wp2_with (at_mapUpdate; rw [← hW]; refine wpList_put W rfl _ _ _ _ rfl Tryd.underlying128 mb n (seenF seen) rfl HM.out hn x hx 2 rfl rfl (WalkArith.wf_i64 (by omega)) ?_; intro w2 hm2 hg2; have hlk2 := hm2.look Tryd.underlying128 x hx; rw [show upd (seenF seen) x.data.toList 2 x.data.toList = 2 by simp [upd]] at hlk2; clear hlk)
  go_ret
  exact ⟨rfl, (grown_of HBW.out _).trans hg2⟩

set_option maxRecDepth 100000 in
set_option maxHeartbeats 2000000 in
theorem known_new (n0 n1 n2 n3 n4 n5 : Int) (hid : ByteArray) (uA fA : Option Addr) (un fn ucap fcap : Nat) (x : ByteArray) (hx : x.size ≤ maxLen) (l : Int) (k : Nat) (hk : k < 18446744073709551616) (seen : List (List UInt8)) (hm : MapIs w mb n (seenF seen)) (hn : n < maxLen) (hs : x.data.toList ∉ seen) :
    Calls Tryd.prog 101 #[.map (some mb), polA n0 n1 n2 n3 n4 n5 hid (.slice uA un ucap) (.slice fA fn fcap), .string x, L.lab l k] w fun e w' => e = .returned (.bool (P.name x.data.toList && fitsB n0 n1 l k)) ∧ MapIs w' mb (n + 1) (seenF (seen ++ [x.data.toList])) ∧ w.grownBy w' (some mb) := by
  obtain ⟨W, hW⟩ : ∃ W : World, W = (w.alloc (.cells #[.int .i64 n0, .int .i64 n1, .int .i64 n2, .int .i64 n3, .int .i64 n4, .int .i64 n5, .string hid, .slice uA un ucap, .slice fA fn fcap] 26)).alloc (.cells #[.int .i64 l, .int .u64 (k : Int)] 40) := ⟨_, rfl⟩
  obtain ⟨t1, t2⟩ := two_blocks' w (.cells #[.int .i64 n0, .int .i64 n1, .int .i64 n2, .int .i64 n3, .int .i64 n4, .int .i64 n5, .string hid, .slice uA un ucap, .slice fA fn fcap] 26) (.cells #[.int .i64 l, .int .u64 (k : Int)] 40)
  have t0 := (Below.heap_alloc (w.alloc (.cells #[.int .i64 n0, .int .i64 n1, .int .i64 n2, .int .i64 n3, .int .i64 n4, .int .i64 n5, .string hid, .slice uA un ucap, .slice fA fn fcap] 26)) (.cells #[.int .i64 l, .int .u64 (k : Int)] 40) w.heap.size (by simp)).trans (heap_alloc_new w _)
  rw [← hW] at t0 t1 t2
  have hmW := hm.kept (grown_of t2 none) (by simp)
  have hlk := hmW.look Tryd.underlying128 x hx
  rw [show seenF seen x.data.toList = 0 by simp [seenF, hs]] at hlk
  have HM := Lib.hid hmW
  have HBW := Lib.hid t2
  have HT0 := Lib.hid t0
  have HT1 := Lib.hid t1
  have HNM := Lib.hid (fun w => name_any x w hx)
  clear hm hmW t0 t1 t2
  go_enter Tryd.func101, Tryd.ntmps101
  rw [hW] at hlk
  go_wp2_with (at_mapUpdate; rw [← hW]; refine wpList_put W rfl _ _ _ _ rfl Tryd.underlying128 mb n (seenF seen) rfl HM.out hn x hx 1 rfl rfl (WalkArith.wf_i64 (by omega)) ?_; intro w2 hm2 hg2; rw [seenF_upd] at hm2; have hlk2 := hm2.look Tryd.underlying128 x hx; rw [show seenF (seen ++ [x.data.toList]) x.data.toList = 1 by simp [seenF]] at hlk2; have HM2 := Lib.hid hm2; have HG2 := Lib.hid hg2; have x0 := HM.out.cellKept hg2 (L.blk_cell HT0.out 0); have x1 := HM.out.cellKept hg2 (L.blk_cell HT0.out 1); have x2 := HM.out.cellKept hg2 (L.blk_cell HT0.out 2); have x3 := HM.out.cellKept hg2 (L.blk_cell HT0.out 3); have x4 := HM.out.cellKept hg2 (L.blk_cell HT0.out 4); have x5 := HM.out.cellKept hg2 (L.blk_cell HT0.out 5); have x6 := HM.out.cellKept hg2 (L.blk_cell HT0.out 6); have x7 := HM.out.cellKept hg2 (L.blk_cell HT0.out 7); have x8 := HM.out.cellKept hg2 (L.blk_cell HT0.out 8); have y0 := HM.out.cellKept hg2 (L.blk_cell HT1.out 0); have y1 := HM.out.cellKept hg2 (L.blk_cell HT1.out 1); clear hlk hm2 hg2)
  with_reducible refine (HNM.out _).mono ?_
  rintro e w3 ⟨rfl, rfl⟩
  clear hlk2
  cases hnm : P.name x.data.toList with
  | false =>
    have HNN := Lib.hid hnm
    clear hnm HNM
    go_wp2_with fail
    go_ret
    exact ⟨ret_of (by rw [HNN.out]; rfl), HM2.out, (grown_of HBW.out _).trans HG2.out⟩
  | true =>
    have HNN := Lib.hid hnm
    clear hnm HNM
    go_wp2_with fail
    with_reducible refine (fits_any _ _ _ _ _ _ _ _ _ _ _ _ hk).mono ?_
    rintro e w4 ⟨rfl, hb4⟩
    have HM4 := Lib.hid (HM2.out.kept (grown_of hb4 none) (by simp))
    have HG4 := Lib.hid (((grown_of HBW.out (some mb)).trans HG2.out).trans (grown_of hb4 (some mb)))
    clear hb4 x0 x1 x2 x3 x4 x5 x6 x7 x8 y0 y1
    go_wp2_with fail
    go_ret
    exact ⟨ret_of (by rw [HNN.out]; rfl), HM4.out, HG4.out⟩

/-- Are names new, and right, and do their labels fit? -/
def seenOk (L C : Int) (seen : List (List UInt8)) : List (List UInt8 × Int × Nat) → Bool
  | [] => true
  | x :: r => decide (x.1 ∉ seen) && P.name x.1 && fitsB L C x.2.1 x.2.2 && seenOk L C (seen ++ [x.1]) r
theorem seenF_nil : seenF [] = fun _ => 0 := by funext x; simp [seenF]

set_option maxRecDepth 100000 in
set_option maxHeartbeats 400000 in
theorem rUsers_many (n0 n1 n2 n3 n4 n5 : Int) (hid : ByteArray) (uA fA : Option Addr) (ucap fn fcap : Nat) (us : List Usr) (w : World) (hlen : us.length ≤ maxLen) (h : 32 < us.length) :
    Calls Tryd.prog 78 #[polA n0 n1 n2 n3 n4 n5 hid (.slice uA us.length ucap) (.slice fA fn fcap)] w fun e w' => e = .returned (.bool false) ∧ Below w.heap.size w w' := by
  have h' : 32 < (us.length : Int) := by omega
  generalize us.length = q at *
  go_enter Tryd.func78, Tryd.ntmps78
  go_wp2_with fail
  go_ret
  exact ⟨rfl, (Below.refl _ _).alloc (Nat.le_refl _) _⟩

set_option maxRecDepth 100000 in
set_option maxHeartbeats 4000000 in
theorem rUsers_few (n0 n1 n2 n3 n4 n5 : Int) (hid : ByteArray) (uA fA : Option Addr) (ucap fn fcap : Nat) (us : List Usr) (w : World) (hU : UsersIn w uA us) (h : us.length ≤ 32) (hct : ∀ u ∈ us, u.ct < 18446744073709551616 ∧ u.name.length ≤ maxLen) :
    Calls Tryd.prog 78 #[polA n0 n1 n2 n3 n4 n5 hid (.slice uA us.length ucap) (.slice fA fn fcap)] w fun e w' => e = .returned (.bool (seenOk n0 n1 [] (us.map fun u => (u.name, u.lv, u.ct)))) ∧ Below w.heap.size w w' := by
  have h' : ¬ 32 < (us.length : Int) := by omega
  have hmm := @run_makeMap Tryd.prog
  have HU := Lib.hid hU
  have HCT := Lib.hid hct
  clear hU hct
  obtain ⟨w0, hw0⟩ : ∃ w0 : World, w0 = w.alloc (.cells #[.int .i64 n0, .int .i64 n1, .int .i64 n2, .int .i64 n3, .int .i64 n4, .int .i64 n5, .string hid, .slice uA us.length ucap, .slice fA fn fcap] 26) := ⟨_, rfl⟩
  have t0 : w0.heap[w.heap.size]? = some (.cells #[.int .i64 n0, .int .i64 n1, .int .i64 n2, .int .i64 n3, .int .i64 n4, .int .i64 n5, .string hid, .slice uA us.length ucap, .slice fA fn fcap] 26 (0, 0)) := by rw [hw0]; exact heap_alloc_new w _
  have tb : Below w.heap.size w w0 := by rw [hw0]; exact (Below.refl _ _).alloc (Nat.le_refl _) _
  have tz : w0.heap.size = w.heap.size + 1 := by rw [hw0]; simp
  have ts : MapIs (w0.alloc (.map #[] 0)) w0.heap.size 0 (fun _ => 0) := MapIs.start w0
  have tb2 : Below w0.heap.size w0 (w0.alloc (.map #[] 0)) := (Below.refl _ _).alloc (Nat.le_refl _) _
  go_enter Tryd.func78, Tryd.ntmps78
  go_wp2_with fail
  rw [tz] at ts tb2
  rw [← hw0]
  have t2 := (tb2.block _ (by omega)).trans t0
  have t3 := tb.trans (tb2.mono (by omega))
  generalize w0.alloc (.map #[] 0) = wB at ts t2 t3 ⊢
  clear tb2 tb t0 hw0 tz hmm
  generalize hmb : w.heap.size + 1 = mb at *
  have n6 : w.heap.size < mb := by omega
  clear hmb
  have TS := Lib.hid ts
  have T2 := Lib.hid t2
  have T3 := Lib.hid t3
  clear ts t2 t3
  go_loopg [14] us.length (fun m i wr => ∃ (k : Nat) (seen : List (List UInt8)), k ≤ us.length ∧ i = .int .i64 k ∧ us.length - k ≤ m ∧ Hid (MapIs wr mb k (seenF seen) ∧ wr.heap[w.heap.size]? = some (.cells #[.int .i64 n0, .int .i64 n1, .int .i64 n2, .int .i64 n3, .int .i64 n4, .int .i64 n5, .string hid, .slice uA us.length ucap, .slice fA fn fcap] 26 (0, 0)) ∧ Below w.heap.size w wr ∧ seenOk n0 n1 [] (us.map fun u => (u.name, u.lv, u.ct)) = seenOk n0 n1 seen ((us.drop k).map fun u => (u.name, u.lv, u.ct))))
  case atStart => exact ⟨0, [], Nat.zero_le _, rfl, by omega, Lib.hid ⟨by rw [seenF_nil]; exact TS.out, T2.out, T3.out, rfl⟩⟩
  case round =>
    obtain ⟨k, seen, hk, rfl, hm, HI⟩ := hrel
    obtain ⟨i1, i2, i3, i5⟩ := HI.out
    by_cases hlt : k < us.length
    · obtain ⟨bk, off, hAe, hbk, hB⟩ := HU.out (by omega)
      subst hAe
      obtain ⟨c0, c1, c2, c3⟩ := hB k hlt
      have c0' := (i3.cell (p := ⟨bk, _, none⟩) hbk).trans c0
      have c1' := (i3.cell (p := ⟨bk, _, none⟩) hbk).trans c1
      have c2' := (i3.cell (p := ⟨bk, _, none⟩) hbk).trans c2
      have c3' := (i3.cell (p := ⟨bk, _, none⟩) hbk).trans c3
      obtain ⟨hcc, hnl⟩ := HCT.out _ (List.getElem_mem hlt)
      have hst : seenOk n0 n1 seen ((us.drop k).map fun u => (u.name, u.lv, u.ct)) = (decide (us[k].name ∉ seen) && P.name us[k].name && fitsB n0 n1 us[k].lv us[k].ct && seenOk n0 n1 (seen ++ [us[k].name]) ((us.drop (k + 1)).map fun u => (u.name, u.lv, u.ct))) := by
        rw [List.drop_eq_getElem_cons hlt, List.map_cons, seenOk]
      have i5 := i5.trans hst
      generalize hfk : us[k] = uk at *
      obtain ⟨up, ul, uc, ua⟩ := uk
      clear hfk c0 c1 c2 c3 hB hst
      simp only at c0' c1' c2' c3' hcc hnl i5
      obtain ⟨xp, hxp⟩ : ∃ y : ByteArray, y = ⟨up.toArray⟩ := ⟨_, rfl⟩
      have hxd : xp.data.toList = up := by rw [hxp, list_data]
      have hxz : xp.size ≤ maxLen := by rw [hxp, list_size]; omega
      rw [← hxp] at c0'
      clear hxp
      have h0k : (0 : Int) ≤ (k : Int) := by omega
      have hki : (k : Int) < (us.length : Int) := by omega
      have hb1 : Below wr.heap.size wr (wr.alloc (.cells #[.string xp, .int .i64 ul, .int .u64 (uc : Int), .bool ua] 72)) := (Below.refl _ _).alloc (Nat.le_refl _) _
      have j1 := i1.kept (grown_of hb1 none) (by simp)
      have j2 := (hb1.block w.heap.size (L.blk_lt i2)).trans i2
      have j3 := i3.trans (hb1.mono i3.size)
      obtain ⟨p0, p1, p2, p3, p4, p5, p6, p7, p8⟩ := pol_cells j2
      have hkm : k < maxLen := by unfold maxLen; omega
      by_cases hse : up ∈ seen
      · have HK := Lib.hid (known_old n0 n1 n2 n3 n4 n5 hid (.slice (some ⟨bk, off, none⟩) us.length ucap) (.slice fA fn fcap) xp hxz ul uc seen j1 hkm (by rw [hxd]; exact hse))
        have HR := Lib.hid (show _ = false from i5.trans (by simp [hse]))
        have HJ3 := Lib.hid j3
        clear i1 i2 i3 i5 HI j1 j2 j3 hb1 hse hxd hxz
        go_wp2_with fail
        with_reducible refine (HK.out).mono ?_
        rintro e w2 ⟨rfl, hg2⟩
        have HB2 := Lib.hid (HJ3.out.grown hg2 HJ3.out.size (fun g hg => by cases hg; exact Nat.le_of_lt n6))
        clear hg2 HK c0' c1' c2' c3' p0 p1 p2 p3 p4 p5 p6 p7 p8
        go_wp2_with fail
        go_ret
        exact ⟨ret_of (by rw [HR.out]; rfl), HB2.out⟩
      · have HK := Lib.hid (known_new n0 n1 n2 n3 n4 n5 hid (some ⟨bk, off, none⟩) fA us.length fn ucap fcap xp hxz ul uc hcc seen j1 hkm (by rw [hxd]; exact hse))
        rw [hxd] at HK
        rw [decide_eq_true hse] at i5
        have HJ1 := Lib.hid j1
        have HJ2 := Lib.hid j2
        have HJ3 := Lib.hid j3
        clear i1 i2 i3 HI j1 j2 j3 hb1 hse hxd hxz
        cases hok : (P.name up && fitsB n0 n1 ul uc) with
        | false =>
          rw [hok] at HK
          have HR := Lib.hid (show _ = false from i5.trans (by rw [Bool.true_and, hok, Bool.false_and]))
          clear i5 hok
          go_wp2_with fail
          with_reducible refine (HK.out).mono ?_
          rintro e w2 ⟨rfl, hm2, hg2⟩
          have HB2 := Lib.hid (HJ3.out.grown hg2 HJ3.out.size (fun g hg => by cases hg; exact Nat.le_of_lt n6))
          clear hm2 hg2 HK c0' c1' c2' c3' p0 p1 p2 p3 p4 p5 p6 p7 p8
          go_wp2_with fail
          go_ret
          exact ⟨ret_of (by rw [HR.out]; rfl), HB2.out⟩
        | true =>
          rw [hok] at HK
          have HR := Lib.hid (i5.trans (by rw [Bool.true_and, hok, Bool.true_and]))
          clear i5 hok
          go_wp2_with fail
          with_reducible refine (HK.out).mono ?_
          rintro e w2 ⟨rfl, hm2, hg2⟩
          have HB2 : Below w.heap.size w w2 := HJ3.out.grown hg2 HJ3.out.size (fun g hg => by cases hg; exact Nat.le_of_lt n6)
          have HP2 := (hg2.block w.heap.size (L.blk_lt HJ2.out) (by simp; omega)).trans HJ2.out
          have HI2 := Lib.hid (show _ ∧ _ ∧ _ ∧ _ from ⟨hm2, HP2, HB2, HR.out⟩)
          clear hm2 hg2 HK HB2 HP2 c0' c1' c2' c3' p0 p1 p2 p3 p4 p5 p6 p7 p8
          go_wp2_with fail
          go_roundg (us.length - (k + 1))
          case rel => exact ⟨k + 1, seen ++ [up], by omega, by go_num, Nat.le_refl _, HI2⟩
          case measure => omega
    · have HR := Lib.hid (show _ = true from i5.trans (by rw [List.drop_eq_nil_of_le (by omega)]; rfl))
      have H3 := Lib.hid i3
      clear i1 i2 i3 i5 HI
      go_wp2_with fail
      go_ret
      exact ⟨ret_of (by rw [HR.out]; rfl), H3.out⟩

set_option maxRecDepth 100000 in
set_option maxHeartbeats 400000 in
theorem rFloors_many (n0 n1 n2 n3 n4 n5 : Int) (hid : ByteArray) (uA fA : Option Addr) (un ucap fcap : Nat) (fs : List Flr) (w : World) (hlen : fs.length ≤ maxLen) (h : 32 < fs.length) :
    Calls Tryd.prog 79 #[polA n0 n1 n2 n3 n4 n5 hid (.slice uA un ucap) (.slice fA fs.length fcap)] w fun e w' => e = .returned (.bool false) ∧ Below w.heap.size w w' := by
  have h' : 32 < (fs.length : Int) := by omega
  generalize fs.length = q at *
  go_enter Tryd.func79, Tryd.ntmps79
  go_wp2_with fail
  go_ret
  exact ⟨rfl, (Below.refl _ _).alloc (Nat.le_refl _) _⟩

set_option maxRecDepth 100000 in
set_option maxHeartbeats 4000000 in
theorem rFloors_few (n0 n1 n2 n3 n4 n5 : Int) (hid : ByteArray) (uA fA : Option Addr) (un ucap fcap : Nat) (fs : List Flr) (w : World) (hU : FloorsIn w fA fs) (h : fs.length ≤ 32) (hct : ∀ u ∈ fs, u.ct < 18446744073709551616 ∧ u.pre.length ≤ maxLen) :
    Calls Tryd.prog 79 #[polA n0 n1 n2 n3 n4 n5 hid (.slice uA un ucap) (.slice fA fs.length fcap)] w fun e w' => e = .returned (.bool (seenOk n0 n1 [] (fs.map fun u => (u.pre, u.lv, u.ct)))) ∧ Below w.heap.size w w' := by
  have h' : ¬ 32 < (fs.length : Int) := by omega
  have hmm := @run_makeMap Tryd.prog
  have HU := Lib.hid hU
  have HCT := Lib.hid hct
  clear hU hct
  obtain ⟨w0, hw0⟩ : ∃ w0 : World, w0 = w.alloc (.cells #[.int .i64 n0, .int .i64 n1, .int .i64 n2, .int .i64 n3, .int .i64 n4, .int .i64 n5, .string hid, .slice uA un ucap, .slice fA fs.length fcap] 26) := ⟨_, rfl⟩
  have t0 : w0.heap[w.heap.size]? = some (.cells #[.int .i64 n0, .int .i64 n1, .int .i64 n2, .int .i64 n3, .int .i64 n4, .int .i64 n5, .string hid, .slice uA un ucap, .slice fA fs.length fcap] 26 (0, 0)) := by rw [hw0]; exact heap_alloc_new w _
  have tb : Below w.heap.size w w0 := by rw [hw0]; exact (Below.refl _ _).alloc (Nat.le_refl _) _
  have tz : w0.heap.size = w.heap.size + 1 := by rw [hw0]; simp
  have ts : MapIs (w0.alloc (.map #[] 0)) w0.heap.size 0 (fun _ => 0) := MapIs.start w0
  have tb2 : Below w0.heap.size w0 (w0.alloc (.map #[] 0)) := (Below.refl _ _).alloc (Nat.le_refl _) _
  go_enter Tryd.func79, Tryd.ntmps79
  go_wp2_with fail
  rw [tz] at ts tb2
  rw [← hw0]
  have t2 := (tb2.block _ (by omega)).trans t0
  have t3 := tb.trans (tb2.mono (by omega))
  generalize w0.alloc (.map #[] 0) = wB at ts t2 t3 ⊢
  clear tb2 tb t0 hw0 tz hmm
  generalize hmb : w.heap.size + 1 = mb at *
  have n6 : w.heap.size < mb := by omega
  clear hmb
  have TS := Lib.hid ts
  have T2 := Lib.hid t2
  have T3 := Lib.hid t3
  clear ts t2 t3
  go_loopg [14] fs.length (fun m i wr => ∃ (k : Nat) (seen : List (List UInt8)), k ≤ fs.length ∧ i = .int .i64 k ∧ fs.length - k ≤ m ∧ Hid (MapIs wr mb k (seenF seen) ∧ wr.heap[w.heap.size]? = some (.cells #[.int .i64 n0, .int .i64 n1, .int .i64 n2, .int .i64 n3, .int .i64 n4, .int .i64 n5, .string hid, .slice uA un ucap, .slice fA fs.length fcap] 26 (0, 0)) ∧ Below w.heap.size w wr ∧ seenOk n0 n1 [] (fs.map fun u => (u.pre, u.lv, u.ct)) = seenOk n0 n1 seen ((fs.drop k).map fun u => (u.pre, u.lv, u.ct))))
  case atStart => exact ⟨0, [], Nat.zero_le _, rfl, by omega, Lib.hid ⟨by rw [seenF_nil]; exact TS.out, T2.out, T3.out, rfl⟩⟩
  case round =>
    obtain ⟨k, seen, hk, rfl, hm, HI⟩ := hrel
    obtain ⟨i1, i2, i3, i5⟩ := HI.out
    by_cases hlt : k < fs.length
    · obtain ⟨bk, off, hAe, hbk, hB⟩ := HU.out (by omega)
      subst hAe
      obtain ⟨c0, c1, c2⟩ := hB k hlt
      have c0' := (i3.cell (p := ⟨bk, _, none⟩) hbk).trans c0
      have c1' := (i3.cell (p := ⟨bk, _, none⟩) hbk).trans c1
      have c2' := (i3.cell (p := ⟨bk, _, none⟩) hbk).trans c2
      obtain ⟨hcc, hnl⟩ := HCT.out _ (List.getElem_mem hlt)
      have hst : seenOk n0 n1 seen ((fs.drop k).map fun u => (u.pre, u.lv, u.ct)) = (decide (fs[k].pre ∉ seen) && P.name fs[k].pre && fitsB n0 n1 fs[k].lv fs[k].ct && seenOk n0 n1 (seen ++ [fs[k].pre]) ((fs.drop (k + 1)).map fun u => (u.pre, u.lv, u.ct))) := by
        rw [List.drop_eq_getElem_cons hlt, List.map_cons, seenOk]
      have i5 := i5.trans hst
      generalize hfk : fs[k] = uk at *
      obtain ⟨up, ul, uc⟩ := uk
      clear hfk c0 c1 c2 hB hst
      simp only at c0' c1' c2' hcc hnl i5
      obtain ⟨xp, hxp⟩ : ∃ y : ByteArray, y = ⟨up.toArray⟩ := ⟨_, rfl⟩
      have hxd : xp.data.toList = up := by rw [hxp, list_data]
      have hxz : xp.size ≤ maxLen := by rw [hxp, list_size]; omega
      rw [← hxp] at c0'
      clear hxp
      have h0k : (0 : Int) ≤ (k : Int) := by omega
      have hki : (k : Int) < (fs.length : Int) := by omega
      have hb1 : Below wr.heap.size wr (wr.alloc (.cells #[.string xp, .int .i64 ul, .int .u64 (uc : Int)] 76)) := (Below.refl _ _).alloc (Nat.le_refl _) _
      have j1 := i1.kept (grown_of hb1 none) (by simp)
      have j2 := (hb1.block w.heap.size (L.blk_lt i2)).trans i2
      have j3 := i3.trans (hb1.mono i3.size)
      obtain ⟨p0, p1, p2, p3, p4, p5, p6, p7, p8⟩ := pol_cells j2
      have hkm : k < maxLen := by unfold maxLen; omega
      by_cases hse : up ∈ seen
      · have HK := Lib.hid (known_old n0 n1 n2 n3 n4 n5 hid (.slice uA un ucap) (.slice (some ⟨bk, off, none⟩) fs.length fcap) xp hxz ul uc seen j1 hkm (by rw [hxd]; exact hse))
        have HR := Lib.hid (show _ = false from i5.trans (by simp [hse]))
        have HJ3 := Lib.hid j3
        clear i1 i2 i3 i5 HI j1 j2 j3 hb1 hse hxd hxz
        go_wp2_with fail
        with_reducible refine (HK.out).mono ?_
        rintro e w2 ⟨rfl, hg2⟩
        have HB2 := Lib.hid (HJ3.out.grown hg2 HJ3.out.size (fun g hg => by cases hg; exact Nat.le_of_lt n6))
        clear hg2 HK c0' c1' c2' p0 p1 p2 p3 p4 p5 p6 p7 p8
        go_wp2_with fail
        go_ret
        exact ⟨ret_of (by rw [HR.out]; rfl), HB2.out⟩
      · have HK := Lib.hid (known_new n0 n1 n2 n3 n4 n5 hid uA (some ⟨bk, off, none⟩) un fs.length ucap fcap xp hxz ul uc hcc seen j1 hkm (by rw [hxd]; exact hse))
        rw [hxd] at HK
        rw [decide_eq_true hse] at i5
        have HJ1 := Lib.hid j1
        have HJ2 := Lib.hid j2
        have HJ3 := Lib.hid j3
        clear i1 i2 i3 HI j1 j2 j3 hb1 hse hxd hxz
        cases hok : (P.name up && fitsB n0 n1 ul uc) with
        | false =>
          rw [hok] at HK
          have HR := Lib.hid (show _ = false from i5.trans (by rw [Bool.true_and, hok, Bool.false_and]))
          clear i5 hok
          go_wp2_with fail
          with_reducible refine (HK.out).mono ?_
          rintro e w2 ⟨rfl, hm2, hg2⟩
          have HB2 := Lib.hid (HJ3.out.grown hg2 HJ3.out.size (fun g hg => by cases hg; exact Nat.le_of_lt n6))
          clear hm2 hg2 HK c0' c1' c2' p0 p1 p2 p3 p4 p5 p6 p7 p8
          go_wp2_with fail
          go_ret
          exact ⟨ret_of (by rw [HR.out]; rfl), HB2.out⟩
        | true =>
          rw [hok] at HK
          have HR := Lib.hid (i5.trans (by rw [Bool.true_and, hok, Bool.true_and]))
          clear i5 hok
          go_wp2_with fail
          with_reducible refine (HK.out).mono ?_
          rintro e w2 ⟨rfl, hm2, hg2⟩
          have HB2 : Below w.heap.size w w2 := HJ3.out.grown hg2 HJ3.out.size (fun g hg => by cases hg; exact Nat.le_of_lt n6)
          have HP2 := (hg2.block w.heap.size (L.blk_lt HJ2.out) (by simp; omega)).trans HJ2.out
          have HI2 := Lib.hid (show _ ∧ _ ∧ _ ∧ _ from ⟨hm2, HP2, HB2, HR.out⟩)
          clear hm2 hg2 HK HB2 HP2 c0' c1' c2' p0 p1 p2 p3 p4 p5 p6 p7 p8
          go_wp2_with fail
          go_roundg (fs.length - (k + 1))
          case rel => exact ⟨k + 1, seen ++ [up], by omega, by go_num, Nat.le_refl _, HI2⟩
          case measure => omega
    · have HR := Lib.hid (show _ = true from i5.trans (by rw [List.drop_eq_nil_of_le (by omega)]; rfl))
      have H3 := Lib.hid i3
      clear i1 i2 i3 i5 HI
      go_wp2_with fail
      go_ret
      exact ⟨ret_of (by rw [HR.out]; rfl), H3.out⟩
end Go.Proofs.YtadhhamfikpimaaDoor.O

namespace Go.Proofs.YtadhhamfikpimaaDoor.O
set_option linter.unusedVariables false
set_option linter.unusedSimpArgs false
open Go.RowKit
open T

def usersOk (L C : Int) (us : List Usr) : Bool := decide (us.length ≤ 32) && seenOk L C [] (us.map fun u => (u.name, u.lv, u.ct))
def floorsOk (L C : Int) (fs : List Flr) : Bool := decide (fs.length ≤ 32) && seenOk L C [] (fs.map fun u => (u.pre, u.lv, u.ct))
def numsOk (ns : List Int) : Bool := (List.range 6).all fun k => inB (lows.getD k 0) (highs.getD k 0) (ns.getD k 0)
/-- Is a policy right? -/
def polOk (ns : List Int) (hid : List UInt8) (us : List Usr) (fs : List Flr) : Bool :=
  numsOk ns && plainB hid && usersOk (ns.getD 0 0) (ns.getD 1 0) us && floorsOk (ns.getD 0 0) (ns.getD 1 0) fs
theorem nums_bad {ns : List Int} {k : Nat} (hk : k < 6) (h : inB (lows.getD k 0) (highs.getD k 0) (ns.getD k 0) = false) : numsOk ns = false := by
  unfold numsOk
  rw [List.all_eq_false]
  exact ⟨k, List.mem_range.2 hk, by rw [h]; simp⟩
theorem nums_good {ns : List Int} (h : ∀ k, k < 6 → inB (lows.getD k 0) (highs.getD k 0) (ns.getD k 0) = true) : numsOk ns = true := by
  unfold numsOk
  rw [List.all_eq_true]
  exact fun k hk => h k (List.mem_range.1 hk)

theorem rUsers_any (n0 n1 n2 n3 n4 n5 : Int) (hid : ByteArray) (uA fA : Option Addr) (ucap fn fcap : Nat) (us : List Usr) (w : World) (hU : UsersIn w uA us) (hlen : us.length ≤ maxLen) (hct : ∀ u ∈ us, u.ct < 18446744073709551616 ∧ u.name.length ≤ maxLen) :
    Calls Tryd.prog 78 #[polA n0 n1 n2 n3 n4 n5 hid (.slice uA us.length ucap) (.slice fA fn fcap)] w fun e w' => e = .returned (.bool (usersOk n0 n1 us)) ∧ Below w.heap.size w w' := by
  unfold usersOk
  by_cases h : us.length ≤ 32
  · rw [decide_eq_true h, Bool.true_and]
    exact rUsers_few n0 n1 n2 n3 n4 n5 hid uA fA ucap fn fcap us w hU h hct
  · rw [decide_eq_false h, Bool.false_and]
    exact rUsers_many n0 n1 n2 n3 n4 n5 hid uA fA ucap fn fcap us w hlen (by omega)
theorem rFloors_any (n0 n1 n2 n3 n4 n5 : Int) (hid : ByteArray) (uA fA : Option Addr) (un ucap fcap : Nat) (fs : List Flr) (w : World) (hF : FloorsIn w fA fs) (hlen : fs.length ≤ maxLen) (hct : ∀ u ∈ fs, u.ct < 18446744073709551616 ∧ u.pre.length ≤ maxLen) :
    Calls Tryd.prog 79 #[polA n0 n1 n2 n3 n4 n5 hid (.slice uA un ucap) (.slice fA fs.length fcap)] w fun e w' => e = .returned (.bool (floorsOk n0 n1 fs)) ∧ Below w.heap.size w w' := by
  unfold floorsOk
  by_cases h : fs.length ≤ 32
  · rw [decide_eq_true h, Bool.true_and]
    exact rFloors_few n0 n1 n2 n3 n4 n5 hid uA fA un ucap fcap fs w hF h hct
  · rw [decide_eq_false h, Bool.false_and]
    exact rFloors_many n0 n1 n2 n3 n4 n5 hid uA fA un ucap fcap fs w hlen (by omega)

theorem pol_at {w : World} {pb : Nat} {n0 n1 n2 n3 n4 n5 : Int} {v6 v7 v8 : Value} (h : w.heap[pb]? = some (.cells #[.int .i64 n0, .int .i64 n1, .int .i64 n2, .int .i64 n3, .int .i64 n4, .int .i64 n5, v6, v7, v8] 26 (0, 0))) {k : Nat} (hk : k < 6) : w.cell? ⟨pb, k, none⟩ = some (.int .i64 ([n0, n1, n2, n3, n4, n5].getD k 0)) := by
  match k, hk with
  | 0, _ => exact L.blk_cell h 0
  | 1, _ => exact L.blk_cell h 1
  | 2, _ => exact L.blk_cell h 2
  | 3, _ => exact L.blk_cell h 3
  | 4, _ => exact L.blk_cell h 4
  | 5, _ => exact L.blk_cell h 5

set_option maxRecDepth 100000 in
set_option maxHeartbeats 4000000 in
theorem right_any (n0 n1 n2 n3 n4 n5 : Int) (hid : ByteArray) (uA fA : Option Addr) (ucap fcap : Nat) (us : List Usr) (fs : List Flr) (w : World) (hh : hid.size ≤ maxLen) (hU : UsersIn w uA us) (hul : us.length ≤ maxLen) (huc : ∀ u ∈ us, u.ct < 18446744073709551616 ∧ u.name.length ≤ maxLen) (hF : FloorsIn w fA fs) (hfl : fs.length ≤ maxLen) (hfc : ∀ u ∈ fs, u.ct < 18446744073709551616 ∧ u.pre.length ≤ maxLen) :
    Calls Tryd.prog 44 #[polA n0 n1 n2 n3 n4 n5 hid (.slice uA us.length ucap) (.slice fA fs.length fcap)] w fun e w' => e = .returned (.bool (polOk [n0, n1, n2, n3, n4, n5] hid.data.toList us fs)) ∧ Below w.heap.size w w' := by
  have HUS := Lib.hid (fun (W : World) (hb : Below w.heap.size w W) => rUsers_any n0 n1 n2 n3 n4 n5 hid uA fA ucap fs.length fcap us W (hU.below hb) hul huc)
  have HFS := Lib.hid (fun (W : World) (hb : Below w.heap.size w W) => rFloors_any n0 n1 n2 n3 n4 n5 hid uA fA us.length ucap fcap fs W (hF.below hb) hfl hfc)
  have HHD := Lib.hid (fun (W : World) => hidden_any hid W hh)
  have HOK := Lib.hid (show polOk [n0, n1, n2, n3, n4, n5] hid.data.toList us fs = (numsOk [n0, n1, n2, n3, n4, n5] && plainB hid.data.toList && usersOk n0 n1 us && floorsOk n0 n1 fs) from rfl)
  generalize polOk [n0, n1, n2, n3, n4, n5] hid.data.toList us fs = ok at *
  generalize plainB hid.data.toList = okh at *
  generalize usersOk n0 n1 us = oku at *
  generalize floorsOk n0 n1 fs = okf at *
  generalize us.length = un at *
  generalize fs.length = fn at *
  clear hU hF huc hfc
  obtain ⟨w0, hw0⟩ : ∃ w0 : World, w0 = w.alloc (.cells #[.int .i64 n0, .int .i64 n1, .int .i64 n2, .int .i64 n3, .int .i64 n4, .int .i64 n5, .string hid, .slice uA un ucap, .slice fA fn fcap] 26) := ⟨_, rfl⟩
  have t0 : w0.heap[w.heap.size]? = some (.cells #[.int .i64 n0, .int .i64 n1, .int .i64 n2, .int .i64 n3, .int .i64 n4, .int .i64 n5, .string hid, .slice uA un ucap, .slice fA fn fcap] 26 (0, 0)) := by rw [hw0]; exact heap_alloc_new w _
  have tb : Below w.heap.size w w0 := by rw [hw0]; exact (Below.refl _ _).alloc (Nat.le_refl _) _
  have T0 := Lib.hid t0
  have TB := Lib.hid tb
  clear t0 tb
  go_enter Tryd.func44, Tryd.ntmps44
  go_wp2_with fail
  rw [← hw0]
  clear hw0
  generalize hpb : w.heap.size = pb at *
  with_reducible refine (numbers_any pb 0 _).mono ?_
  rintro e w1 ⟨rfl, hg1, hb1, hs1⟩
  have HG1 := Lib.hid hg1
  have T1 := Lib.hid ((hb1.block _ (L.blk_lt T0.out)).trans T0.out)
  have TB1 := Lib.hid (TB.out.trans (hb1.mono (Nat.le_of_lt (L.blk_lt T0.out))))
  clear hg1 hb1 hs1 TB T0
  generalize w0.heap.size = gb at *
  have HPB := Lib.hid hpb
  clear hpb
  go_wp2_with fail
  go_loopg [7] 6 (fun m i wr => ∃ k : Nat, k ≤ 6 ∧ i = .int .i64 k ∧ 6 - k ≤ m ∧ Below w1.heap.size w1 wr ∧ Hid (∀ j, j < k → inB (lows.getD j 0) (highs.getD j 0) ([n0, n1, n2, n3, n4, n5].getD j 0) = true))
  case atStart => exact ⟨0, by omega, rfl, by omega, Below.refl _ _, Lib.hid (fun j hj => absurd hj (by omega))⟩
  case round =>
    obtain ⟨k, hk, rfl, hm, hbr, HJ⟩ := hrel
    have T2 := Lib.hid ((hbr.block _ (L.blk_lt T1.out)).trans T1.out)
    have hlt2 := L.blk_lt T2.out
    have TB2 := Lib.hid (TB1.out.trans (hbr.mono (Nat.le_of_lt (L.blk_lt T1.out))))
    by_cases hk6 : k < 6
    · obtain ⟨d0, d1, d2, d3⟩ := cell_num HG1.out hbr hk6
      have hki : (k : Int) < 6 := by omega
      have hk0 : (0 : Int) ≤ (k : Int) := by omega
      have hbad : inB (lows.getD k 0) (highs.getD k 0) ([n0, n1, n2, n3, n4, n5].getD k 0) = false → numsOk [n0, n1, n2, n3, n4, n5] = false := nums_bad hk6
      have hgood : inB (lows.getD k 0) (highs.getD k 0) ([n0, n1, n2, n3, n4, n5].getD k 0) = true → ∀ j, j < k + 1 → inB (lows.getD j 0) (highs.getD j 0) ([n0, n1, n2, n3, n4, n5].getD j 0) = true := fun he j hj => by
        rcases Nat.lt_or_ge j k with h' | h'
        · exact HJ.out j h'
        · rw [show j = k by omega]; exact he
      have hck := pol_at T2.out hk6
      have HBAD := Lib.hid hbad
      have HGOOD := Lib.hid hgood
      clear hbad hgood HJ
      generalize [n0, n1, n2, n3, n4, n5].getD k 0 = nk at *
      generalize keys.getD k [] = kw at *
      generalize lows.getD k 0 = lo at *
      generalize highs.getD k 0 = hi at *
      generalize (⟨kw.toArray⟩ : ByteArray) = xw at *
      have hb2 : Below wr.heap.size wr (wr.alloc (.cells #[.string xw, .pointer (some ⟨pb, k, none⟩), .int .i64 lo, .int .i64 hi] 112)) := (Below.refl _ _).alloc (Nat.le_refl _) _
      have hck2 := cell_later hb2 hck
      have HNR := Lib.hid (numRight_any xw pb k lo hi nk (wr.alloc (.cells #[.string xw, .pointer (some ⟨pb, k, none⟩), .int .i64 lo, .int .i64 hi] 112)) (by simp; omega) hck2)
      have HBR := Lib.hid (hbr.trans (hb2.mono hbr.size))
      have TB3 := Lib.hid (TB2.out.trans (hb2.mono (Nat.le_of_lt hlt2)))
      clear hck hck2 hb2 hbr
      go_wp2_with fail
      with_reducible refine (HNR.out).mono ?_
      rintro e w3 ⟨rfl, hb3⟩
      have HB3 := Lib.hid (HBR.out.trans (hb3.mono (by have := HBR.out.size; exact this)))
      have HE3 := Lib.hid (TB3.out.trans (hb3.mono (by simp; omega)))
      clear hb3 HNR HBR TB3 d0 d1 d2 d3
      cases hin : inB lo hi nk with
      | false =>
        have hof : ok = false := by rw [HOK.out, HBAD.out hin]; rfl
        have HOF := Lib.hid hof
        clear hin hof HBAD HGOOD
        go_wp2_with fail
        go_ret
        exact ⟨ret_of (by rw [HOF.out]; rfl), by rw [HPB.out]; exact HE3.out⟩
      | true =>
        have HJ2 := Lib.hid (HGOOD.out hin)
        clear hin HBAD HGOOD HE3
        go_wp2_with fail
        go_roundg (6 - (k + 1))
        case rel => exact ⟨k + 1, by omega, by go_num, Nat.le_refl _, HB3.out, HJ2⟩
        case measure => omega
    · have hk : k = 6 := by omega
      subst hk
      have hnum := nums_good HJ.out
      have hok : ok = (okh && oku && okf) := by rw [HOK.out, hnum, Bool.true_and]
      have HO2 := Lib.hid hok
      clear hok hnum HJ HOK hbr
      obtain ⟨p0, p1, p2, p3, p4, p5, p6, p7, p8⟩ := pol_cells T2.out
      have HU1 := Lib.hid (HUS.out wr TB2.out)
      cases okh with
      | false =>
        go_wp2_with fail
        with_reducible refine (HHD.out _).mono ?_
        rintro e w3 ⟨rfl, rfl⟩
        go_wp2_with fail
        go_ret
        exact ⟨ret_of (by rw [HO2.out]; rfl), by rw [HPB.out]; exact TB2.out⟩
      | true =>
        go_wp2_with fail
        with_reducible refine (HHD.out _).mono ?_
        rintro e w3 ⟨rfl, rfl⟩
        go_wp2_with fail
        with_reducible refine (HU1.out).mono ?_
        rintro e w4 ⟨rfl, hb4⟩
        have T4 := Lib.hid ((hb4.block _ (L.blk_lt T2.out)).trans T2.out)
        have TB4 := Lib.hid (TB2.out.trans (hb4.mono (Nat.le_of_lt hlt2)))
        have HF1 := Lib.hid (HFS.out w4 TB4.out)
        clear p0 p1 p2 p3 p4 p5 p6 p7 p8 hb4
        obtain ⟨p0, p1, p2, p3, p4, p5, p6, p7, p8⟩ := pol_cells T4.out
        have hlt4 := L.blk_lt T4.out
        cases oku with
        | false =>
          go_wp2_with fail
          go_ret
          exact ⟨ret_of (by rw [HO2.out]; rfl), by rw [HPB.out]; exact TB4.out⟩
        | true =>
          go_wp2_with fail
          with_reducible refine (HF1.out).mono ?_
          rintro e w5 ⟨rfl, hb5⟩
          have TB5 := Lib.hid (TB4.out.trans (hb5.mono (Nat.le_of_lt hlt4)))
          clear p0 p1 p2 p3 p4 p5 p6 p7 p8 hb5
          go_wp2_with fail
          go_ret
          exact ⟨ret_of (by rw [HO2.out]; rfl), by rw [HPB.out]; exact TB5.out⟩

set_option maxRecDepth 100000 in
set_option maxHeartbeats 400000 in
theorem check_any (n0 n1 n2 n3 n4 n5 : Int) (hid : ByteArray) (uA fA : Option Addr) (ucap fcap : Nat) (us : List Usr) (fs : List Flr) (w : World) (hh : hid.size ≤ maxLen) (hU : UsersIn w uA us) (hul : us.length ≤ maxLen) (huc : ∀ u ∈ us, u.ct < 18446744073709551616 ∧ u.name.length ≤ maxLen) (hF : FloorsIn w fA fs) (hfl : fs.length ≤ maxLen) (hfc : ∀ u ∈ fs, u.ct < 18446744073709551616 ∧ u.pre.length ≤ maxLen) :
    Calls Tryd.prog 18 #[polA n0 n1 n2 n3 n4 n5 hid (.slice uA us.length ucap) (.slice fA fs.length fcap)] w fun e w' => e = .returned (.int .i64 (if polOk [n0, n1, n2, n3, n4, n5] hid.data.toList us fs then 0 else 2)) ∧ Below w.heap.size w w' := by
  obtain ⟨w0, hw0⟩ : ∃ w0 : World, w0 = w.alloc (.cells #[.int .i64 n0, .int .i64 n1, .int .i64 n2, .int .i64 n3, .int .i64 n4, .int .i64 n5, .string hid, .slice uA us.length ucap, .slice fA fs.length fcap] 26) := ⟨_, rfl⟩
  have tb : Below w.heap.size w w0 := by rw [hw0]; exact (Below.refl _ _).alloc (Nat.le_refl _) _
  have HR := Lib.hid (right_any n0 n1 n2 n3 n4 n5 hid uA fA ucap fcap us fs w0 hh (hU.below tb) hul huc (hF.below tb) hfl hfc)
  have TB := Lib.hid tb
  clear hU hF huc hfc tb
  generalize polOk [n0, n1, n2, n3, n4, n5] hid.data.toList us fs = ok at *
  generalize us.length = un at *
  generalize fs.length = fn at *
  go_enter Tryd.func18, Tryd.ntmps18
  go_wp2_with fail
  rw [← hw0]
  clear hw0
  with_reducible refine (HR.out).mono ?_
  rintro e w2 ⟨rfl, hb2⟩
  have TB2 := Lib.hid (TB.out.trans (hb2.mono TB.out.size))
  clear hb2
  cases ok with
  | false =>
    go_wp2_with fail
    go_ret
    exact ⟨rfl, TB2.out⟩
  | true =>
    go_wp2_with fail
    go_ret
    exact ⟨rfl, TB2.out⟩
end Go.Proofs.YtadhhamfikpimaaDoor.O
