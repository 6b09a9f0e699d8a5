/-
  A log and its answer side by side; play's contract.
  What the laws of layer 20 ask of a program at all.
  The contracts of layer 20 in one form for the laws; a nil log's answers.
  A label read out of an argument; small facts for arguments of structs.
  An argument that is entries, or one entry, opened: its value, and what its cells hold.
-/
import Derived.Test.YtbfohfmipfapdaaDoorGuf
import Derived.Test.YtbfohfmipfapdaaDoorGua
import Derived.Deep.Slices
import Derived.Deep.Strs
import Derived.Lib.SmallJoins
import Derived.Test.YtbfohfmipfapdaaDoorGud
namespace Go.Proofs.YtbfohfmipfapdaaDoor.Au
set_option linter.unusedVariables false
set_option linter.unusedSimpArgs false
open Go.RowKit
open T
open V (drawn_below grown_of)
open I (alloc1 own_at own_below)

theorem ets_ne {W : World} {A A' : Option Addr} {l : List Et} {b n c : Nat} {t : TypeId} (hI : EtsIn W A l) (hX : W.heap[b]? = some (.cells #[.slice A' n c] t (0, 0))) (hp : 0 < l.length) : ∀ ad, A = some ad → ad.block ≠ b := by
  intro ad hA hb
  obtain ⟨bk, off, e, hlt, hl⟩ := hI hp
  rw [e] at hA
  injection hA with hA
  subst hA
  have hb : bk = b := hb
  subst hb
  have h0 := (hl 0 hp).1
  have h1 := L.blk_cell hX (off + 0 * 6)
  rw [h0] at h1
  rcases Nat.eq_zero_or_pos (off + 0 * 6) with hz | hz
  · rw [hz] at h1
    simp at h1
  · rw [Array.getElem?_eq_none (by simp; omega)] at h1
    cases h1
/-- A log and its answer in memory: boxes bx and by, entries lx and ly; no call of the one alters the other. -/
structure PlA (base : Nat) (W : World) (bx yb : Nat) (v : Value) (r : Option Nat) (B : Option Addr) (d : Nat) (lx ly : List Et) : Prop where
  x : W.heap[bx]? = some (.cells #[v] 52 (0, 0))
  rw : Rw W base r v lx
  y : LgA W 50 yb B d ly
  far : 0 < ly.length → ∀ ad, B = some ad → some ad.block ≠ r
  bs : base ≤ W.heap.size
  gx : base ≤ bx
  gy : base ≤ yb
def Pl (base : Nat) (W : World) (bx yb : Nat) (lx ly : List Et) : Prop := ∃ v r B d, PlA base W bx yb v r B d lx ly
section
variable {base : Nat} {W W' : World} {bx yb : Nat} {lx ly : List Et} {v : Value} {r : Option Nat} {B : Option Addr} {d : Nat}
theorem Pl.below (h : Pl base W bx yb lx ly) (hb : Below W.heap.size W W') : Pl base W' bx yb lx ly := by
  obtain ⟨v, r, B, d, h⟩ := h
  exact ⟨v, r, B, d, (hb.block _ (L.blk_lt h.x)).trans h.x, h.rw.below hb, h.y.below hb, h.far, Nat.le_trans h.bs hb.size, h.gx, h.gy⟩
theorem Rw.full (h : Rw W base r v lx) : ∃ A c, v = .slice A lx.length c ∧ lx.length ≤ c ∧ (A = none → c = 0) ∧ EtsIn W A lx := by
  rcases h with ⟨h, -⟩ | ⟨A, rfl, h, h0, -⟩
  · have h2 := h
    rcases h.2 with ⟨e, hn⟩ | ⟨g, cap, cur, e, _, _, hc, _⟩
    · subst e
      obtain rfl : lx = [] := List.length_eq_zero_iff.1 hn
      exact ⟨none, 0, rfl, Nat.le_refl _, fun _ => rfl, EtsIn.nil _ _⟩
    · subst e
      exact ⟨_, cap, rfl, hc, fun e => (by cases e), ets_own h2⟩
  · exact ⟨A, _, rfl, Nat.le_refl _, fun e => (by rw [h0 e]; rfl), h⟩
theorem Pl.rx (h : Pl base W bx yb lx ly) : LgR W 52 bx lx := by
  obtain ⟨v, r, B, d, h⟩ := h
  obtain ⟨A, c, rfl, hc, hz, hI⟩ := h.rw.full
  exact ⟨A, c, h.x, hc, hz, hI⟩
theorem Pl.ry (h : Pl base W bx yb lx ly) : LgR W 50 yb ly := by
  obtain ⟨v, r, B, d, h⟩ := h
  exact ⟨B, d, h.y⟩
theorem PlA.ne (h : PlA base W bx yb v r B d lx ly) : bx ≠ yb := fun e => by
  have h1 := h.x
  rw [e, h.y.x] at h1
  injection h1 with h1
  injection h1 with _ h1
  exact absurd h1 (by decide)
theorem addx {e : Et} (h : Pl base W bx yb lx ly) (hl : lx.length ≤ 1000) (hok : EtOk e) : Calls Tryd.prog 18 #[.pointer (some ⟨bx, 0, none⟩), etV e] W fun x W' => x = .returned (.int .i64 (ckE e)) ∧ Pl base W' bx yb (addE lx e) ly ∧ Below base W W' := by
  obtain ⟨v, r, B, d, h⟩ := h
  refine (add_any hok h.x h.rw hl h.bs).mono ?_
  rintro x W' ⟨rfl, hk, v', r', hx', hr', hrr⟩
  have hyl := L.blk_lt h.y.x
  refine ⟨rfl, ⟨v', r', B, d, hx', hr', ⟨(hk.block yb hyl (fun e => h.ne e.symm) (h.rw.ne h.y.x (by decide))).trans h.y.x, h.y.r, h.y.z, hk.ets h.y.i (fun hp ad hA => ⟨?_, h.far hp ad hA⟩)⟩, fun hp ad hA => ?_, Nat.le_trans h.bs hk.size, h.gx, h.gy⟩, hk.below h.gx (fun g hg => (h.rw.ge g hg).1) h.bs⟩
  · obtain ⟨A, c, rfl, -⟩ := h.rw.full
    exact ets_ne h.y.i h.x hp ad hA
  · rcases hrr with rfl | ⟨g, rfl, hg⟩
    · exact h.far hp ad hA
    · obtain ⟨bk, off, e2, hlt, -⟩ := h.y.i hp
      rw [e2] at hA
      injection hA with hA
      subst hA
      intro e3
      injection e3 with e3
      have e3 : bk = g := e3
      omega
theorem addy {e : Et} (h : Pl base W bx yb lx ly) (hl : ly.length ≤ 1000) (hok : EtOk e) : Calls Tryd.prog 21 #[.pointer (some ⟨yb, 0, none⟩), etV e] W fun x W' => x = .returned (.int .i64 (ckE e)) ∧ Pl base W' bx yb lx (addE ly e) ∧ Below base W W' := by
  obtain ⟨v, r, B, d, h⟩ := h
  refine (radd_any hok h.y.x h.y.i h.y.z h.y.r hl).mono ?_
  rintro x W' ⟨rfl, hk, B', d', hx', hI', hr', hz', hBB⟩
  have hxl := L.blk_lt h.x
  have hg : W.grownBy W' (some yb) := ⟨hk.os, hk.tape, hk.output, hk.size, fun k hkl hne => hk.block k hkl (fun e => hne (by rw [e])) (by simp)⟩
  refine ⟨rfl, ⟨v, r, B', d', (hk.block bx hxl h.ne (by simp)).trans h.x, ?_, ⟨hx', hr', hz', hI'⟩, fun hp ad hA => ?_, Nat.le_trans h.bs hk.size, h.gx, h.gy⟩, hk.below h.gy (fun g hg => by cases hg) h.bs⟩
  · rcases h.rw with ⟨ho, hr⟩ | ⟨A, hv, hI, h0, hr⟩
    · exact .inl ⟨ho.kept hg (V.own_ne ho (fun cs e => by rw [h.y.x] at e; injection e with e; injection e with _ e; exact absurd e (by decide))), hr⟩
    · exact .inr ⟨A, hv, hk.ets hI (fun hp ad hA => ⟨ets_ne hI h.y.x hp ad hA, by simp⟩), h0, hr⟩
  · rcases hBB with ⟨hno, rfl⟩ | ⟨g, o, rfl, hg2⟩
    · rw [show addE ly e = ly from if_neg hno] at hp
      exact h.far hp ad hA
    · injection hA with hA
      subst hA
      intro e3
      have := (h.rw.ge g e3.symm).2
      omega
end
theorem pl_start (w : World) : Pl w.heap.size ((w.alloc (.cells #[.slice none 0 0] 52)).alloc (.cells #[.slice none 0 0] 50)) w.heap.size (w.heap.size + 1) [] [] := by
  refine ⟨.slice none 0 0, none, none, 0, ?_, .inl ⟨World.ownsRow_nil _ _ _ _, rfl⟩, ⟨at_new _ (by simp), Nat.le_refl _, fun _ => rfl, EtsIn.nil _ _⟩, fun h => absurd h (by simp), by simp; omega, Nat.le_refl _, by omega⟩
  rw [Below.heap_alloc _ _ _ (by simp)]
  exact heap_alloc_new w _
/-- What play comes to. -/
def PyEnd (w : World) (l : List Et) (e : Ending) (w' : World) : Prop := ∃ bx yb, e = .returned (.tuple #[.pointer (some ⟨bx, 0, none⟩), .pointer (some ⟨yb, 0, none⟩), .bool true]) ∧ Pl w.heap.size w' bx yb (fine (l.take 60)) (fine (l.take 60)) ∧ Below w.heap.size w w'
set_option maxRecDepth 100000 in
set_option maxHeartbeats 8000000 in
theorem play_any {w : World} {A : Option Addr} {c : Nat} {l : List Et} (hA : EtsIn w A l) (hok : ∀ e ∈ l, EtOk e) (hl : l.length ≤ maxLen) :
    Calls Tryd.prog 7 #[.slice A l.length c] w (PyEnd w l) := by
  have HA := Lib.hid hA
  have HOK := Lib.hid (fun (k : Nat) (h : k < l.length) => hok _ (List.getElem_mem h))
  have HF := Lib.hid (fun (k : Nat) (h : k < l.length) => fine_take h)
  have HFL := Lib.hid (fun (k : Nat) => fine_len l k)
  have HNW := Lib.hid (new_any w)
  have HP0 := Lib.hid (pl_start w)
  have HB0 : Hid (Below w.heap.size w ((w.alloc (.cells #[.slice none 0 0] 52)).alloc (.cells #[.slice none 0 0] 50))) := Lib.hid ((alloc1 _ _).alloc (by simp) _)
  have HF0 := Lib.hid (fine_zero l)
  unfold maxLen at hl
  clear hA hok
  go_enter Tryd.func7, Tryd.ntmps7
  go_wp2_with fail
  with_reducible refine HNW.out.mono ?_
  rintro e w1 ⟨rfl, rfl⟩
  clear HNW
  go_wp2_with fail
  obtain ⟨bx, hbx⟩ : ∃ q, q = w.heap.size := ⟨_, rfl⟩
  obtain ⟨yb, hyb⟩ : ∃ q, q = w.heap.size + 1 := ⟨_, rfl⟩
  obtain ⟨W0, hW0⟩ : ∃ W : World, W = (w.alloc (.cells #[.slice none 0 0] 52)).alloc (.cells #[.slice none 0 0] 50) := ⟨_, rfl⟩
  rw [← hW0] at HP0 HB0
  rw [← hyb] at HP0
  try simp only [World.size_alloc]
  rw [← hW0, ← hyb, ← hbx]
  obtain ⟨b0, hb0⟩ : ∃ q, q = w.heap.size := ⟨_, rfl⟩
  have HPX : Hid (Pl b0 W0 bx yb [] []) := Lib.hid (by rw [hb0, hbx]; exact HP0.out)
  have HE0 := Lib.hid hb0
  rw [← hb0] at HB0
  clear hW0 hyb hbx HP0 hb0
  go_loopg [7] l.length (fun q i wr => ∃ k : Nat, k ≤ l.length ∧ k ≤ 60 ∧ i = .int .i64 k ∧ l.length - k ≤ q ∧ Hid (Pl b0 wr bx yb (fine (l.take k)) (fine (l.take k))) ∧ Hid (Below b0 w wr))
  case atStart => exact ⟨0, Nat.zero_le _, by omega, rfl, by omega, Lib.hid (by rw [HF0.out]; exact HPX.out), HB0⟩
  case round =>
    obtain ⟨k, hk, hk6, rfl, hm, HPK, HBR⟩ := hrel
    by_cases hlt : k < l.length ∧ k < 60
    · obtain ⟨hlt, hk60⟩ := hlt
      obtain ⟨bk, off, hAe, hbk, c0, c1, c2, c3, c4, c5⟩ := et_at HA.out hlt
      subst hAe
      have h0k : (0 : Int) ≤ (k : Int) := by omega
      have hki : (k : Int) < (l.length : Int) := by omega
      have hk6i : (k : Int) < 60 := by omega
      have HOE := Lib.hid (HOK.out k hlt)
      have HFK := Lib.hid (HF.out k hlt)
      have hfl := HFL.out k
      obtain ⟨ls, hls⟩ : ∃ q, q = fine (l.take k) := ⟨_, rfl⟩
      rw [← hls] at HPK HFK hfl
      clear hls
      obtain ⟨e, he⟩ : ∃ e, e = l[k]'hlt := ⟨_, rfl⟩
      rw [← he] at c0 c1 c2 c3 c4 c5 HOE HFK
      clear he
      have HX : Hid (∀ W, Below b0 w W → W.cell? ⟨bk, off + k * 6, none⟩ = some (.string e.us) ∧ W.cell? ⟨bk, off + k * 6 + 1, none⟩ = some (.int .i64 e.lv) ∧ W.cell? ⟨bk, off + k * 6 + 2, none⟩ = some (.int .u64 (e.ct : Int)) ∧ W.cell? ⟨bk, off + k * 6 + 3, none⟩ = some (.string e.ve) ∧ W.cell? ⟨bk, off + k * 6 + 4, none⟩ = some (.string e.fi) ∧ W.cell? ⟨bk, off + k * 6 + 5, none⟩ = some (.string e.oc) ∧ Below b0 w W) := Lib.hid (fun W h => by
        have hbk2 : bk < b0 := by rw [HE0.out]; exact hbk
        exact ⟨(h.cell (p := ⟨bk, off + k * 6, none⟩) hbk2).trans c0, (h.cell (p := ⟨bk, off + k * 6 + 1, none⟩) hbk2).trans c1, (h.cell (p := ⟨bk, off + k * 6 + 2, none⟩) hbk2).trans c2, (h.cell (p := ⟨bk, off + k * 6 + 3, none⟩) hbk2).trans c3, (h.cell (p := ⟨bk, off + k * 6 + 4, none⟩) hbk2).trans c4, (h.cell (p := ⟨bk, off + k * 6 + 5, none⟩) hbk2).trans c5, h⟩)
      have HC1 : Hid (∀ W, Pl b0 W bx yb ls ls → Below b0 w W → Calls Tryd.prog 24 #[.agg #[.string e.us, .int .i64 e.lv, .int .u64 (e.ct : Int), .string e.ve, .string e.fi, .string e.oc]] W fun x W' => x = .returned (.int .i64 (ckE e)) ∧ Pl b0 W' bx yb ls ls ∧ Below b0 w W') := Lib.hid (fun W h hb => ((c_check HOE.out).call W).mono fun x W' g => ⟨g.1, h.below g.2, hb.trans (g.2.mono (by obtain ⟨_, _, _, _, h⟩ := h; exact h.bs))⟩)
      have HC2 : Hid (∀ W, Pl b0 W bx yb ls ls → Below b0 w W → Calls Tryd.prog 25 #[.agg #[.string e.us, .int .i64 e.lv, .int .u64 (e.ct : Int), .string e.ve, .string e.fi, .string e.oc]] W fun x W' => x = .returned (.int .i64 (ckE e)) ∧ Pl b0 W' bx yb ls ls ∧ Below b0 w W') := Lib.hid (fun W h hb => ((c_rcheck HOE.out).call W).mono fun x W' g => ⟨g.1, h.below g.2, hb.trans (g.2.mono (by obtain ⟨_, _, _, _, h⟩ := h; exact h.bs))⟩)
      have HC3 : Hid (∀ W, Pl b0 W bx yb ls ls → Below b0 w W → Calls Tryd.prog 18 #[.pointer (some ⟨bx, 0, none⟩), .agg #[.string e.us, .int .i64 e.lv, .int .u64 (e.ct : Int), .string e.ve, .string e.fi, .string e.oc]] W fun x W' => x = .returned (.int .i64 (ckE e)) ∧ Pl b0 W' bx yb (addE ls e) ls ∧ Below b0 w W') := Lib.hid (fun W h hb => (addx h (by omega) HOE.out).mono fun x W' g => ⟨g.1, g.2.1, hb.trans g.2.2⟩)
      have HC4 : Hid (∀ W, Pl b0 W bx yb (addE ls e) ls → Below b0 w W → Calls Tryd.prog 21 #[.pointer (some ⟨yb, 0, none⟩), .agg #[.string e.us, .int .i64 e.lv, .int .u64 (e.ct : Int), .string e.ve, .string e.fi, .string e.oc]] W fun x W' => x = .returned (.int .i64 (ckE e)) ∧ Pl b0 W' bx yb (addE ls e) (addE ls e) ∧ Below b0 w W') := Lib.hid (fun W h hb => (addy h (by omega) HOE.out).mono fun x W' g => ⟨g.1, g.2.1, hb.trans g.2.2⟩)
      have HS0 : Hid (Pl b0 wr.drew bx yb ls ls ∧ Below b0 w wr.drew) := Lib.hid ⟨HPK.out.below (Below.refl _ _).drew, HBR.out.trans (Below.refl _ _).drew⟩
      obtain ⟨us, lv, ct, ve, fi, oc⟩ := e
      simp only at c0 c1 c2 c3 c4 c5 HX HC1 HC2 HC3 HC4
      generalize ckE ⟨us, lv, ct, ve, fi, oc⟩ = q at *
      have hqq : (q != q) = false := by simp
      have hst := HS0.out.1
      have hbt := HS0.out.2
      clear hbk c0 c1 c2 c3 c4 c5 hfl HBR HPK HS0 HOE
      go_upto_region 7 with fail
      go_region_held3 (fun W => W.cell? ⟨bk, off + k * 6, none⟩ = some (.string us) ∧ W.cell? ⟨bk, off + k * 6 + 1, none⟩ = some (.int .i64 lv) ∧ W.cell? ⟨bk, off + k * 6 + 2, none⟩ = some (.int .u64 (ct : Int)) ∧ W.cell? ⟨bk, off + k * 6 + 3, none⟩ = some (.string ve) ∧ W.cell? ⟨bk, off + k * 6 + 4, none⟩ = some (.string fi) ∧ W.cell? ⟨bk, off + k * 6 + 5, none⟩ = some (.string oc) ∧ Below b0 w W)
        (first | exact HX.out _ (by assumption))
        (first
          | (go_at_call 24; with_reducible refine (HC1.out _ (by assumption) (by assumption)).mono ?_; rintro x wq ⟨rfl, hst1, hbq⟩)
          | (go_at_call 25; with_reducible refine (HC2.out _ (by assumption) (by assumption)).mono ?_; rintro x wq ⟨rfl, hst1, hbq⟩)
          | (go_at_call 18; with_reducible refine (HC3.out _ (by assumption) (by assumption)).mono ?_; rintro x wq ⟨rfl, hst1, hbq⟩)
          | (go_at_call 21; with_reducible refine (HC4.out _ (by assumption) (by assumption)).mono ?_; rintro x wq ⟨rfl, hst1, hbq⟩))
      all_goals
        go_wp2_with fail
        go_roundg (l.length - (k + 1))
        case rel => exact ⟨k + 1, by omega, by omega, by go_num, Nat.le_refl _, Lib.hid (by rw [HFK.out]; assumption), Lib.hid (by assumption)⟩
        case measure => omega
    · have he : fine (l.take k) = fine (l.take 60) := by
        rcases Nat.lt_or_ge k l.length with h | h
        · rw [show k = 60 by omega]
        · rw [List.take_of_length_le h, List.take_of_length_le (show l.length ≤ 60 by omega)]
      have HFIN : Hid (∀ W, Below wr.heap.size wr W → PyEnd w l (.returned (.tuple #[.pointer (some ⟨bx, 0, none⟩), .pointer (some ⟨yb, 0, none⟩), .bool true])) W) := Lib.hid (fun W h => ⟨bx, yb, rfl, by rw [← HE0.out, ← he]; exact HPK.out.below h, by rw [← HE0.out]; exact HBR.out.trans (h.mono (by obtain ⟨_, _, _, _, h⟩ := HPK.out; exact h.bs))⟩)
      obtain ⟨ls, hls⟩ : ∃ q, q = fine (l.take k) := ⟨_, rfl⟩
      rw [← hls] at HPK
      have HPF := HPK
      clear hls he HPK HF HFL HPX HB0 HF0 HOK HA
      by_cases hkl : k < l.length
      · obtain rfl : k = 60 := by omega
        have hki : (60 : Int) < (l.length : Int) := by omega
        have HPL := Lib.hid HPF.out
        have HLN : Hid (∀ W, Pl b0 W bx yb ls ls → Below b0 w W → Calls Tryd.prog 22 #[.pointer (some ⟨bx, 0, none⟩)] W fun x W' => x = .returned (.int .i64 (ls.length : Int)) ∧ W' = W) := Lib.hid (fun W h _ => len_any h.rx)
        obtain ⟨B, d, hyA⟩ := HPL.out.ry
        have HSX : Hid (∀ W, Below wr.heap.size wr W → W.cell? ⟨yb, 0, none⟩ = some (.slice B ls.length d) ∧ Below wr.heap.size wr W) := Lib.hid (fun W h => ⟨(hyA.below h).cell, h⟩)
        have HST : Hid (∀ W, Below wr.heap.size wr W → Pl b0 W bx yb ls ls ∧ Below b0 w W) := Lib.hid (fun W h => ⟨HPF.out.below h, HBR.out.trans (h.mono (by obtain ⟨_, _, _, _, h⟩ := HPF.out; exact h.bs))⟩)
        have HLD : Hid (∀ W, Below wr.heap.size wr W → Calls Tryd.prog 22 #[.pointer (some ⟨bx, 0, none⟩)] W fun x W' => x = .returned (.int .i64 (ls.length : Int)) ∧ Below wr.heap.size wr W') := Lib.hid (fun W h => (HLN.out W (HST.out W h).1 (HST.out W h).2).mono fun x W' g => ⟨g.1, by rw [g.2]; exact h⟩)
        have hlq : ((ls.length : Int) == (ls.length : Int)) = true := by simp
        generalize ls.length = n at *
        clear hyA HLN HPL HPF HBR
        go_upto_region 9 with fail
        go_region_held3 (fun W => W.cell? ⟨yb, 0, none⟩ = some (.slice B n d) ∧ Below wr.heap.size wr W)
          (first | exact HSX.out _ ((Below.refl _ _).drew) | exact HSX.out _ (by assumption))
          (first | (go_at_call 22; with_reducible refine (HLD.out _ (by first | assumption | exact (Below.refl _ _).drew)).mono ?_; rintro x wq ⟨rfl, hbq⟩))
        all_goals
          go_wp2_with fail
          exact bodyPost_ret (v := .tuple #[.pointer (some ⟨bx, 0, none⟩), .pointer (some ⟨yb, 0, none⟩), .bool true]) (by simp [results, Tryd.results7, go_sem]) rfl (HFIN.out _ (by assumption))
      · obtain rfl : k = l.length := by omega
        have HPL := Lib.hid HPF.out
        have HLN : Hid (∀ W, Pl b0 W bx yb ls ls → Below b0 w W → Calls Tryd.prog 22 #[.pointer (some ⟨bx, 0, none⟩)] W fun x W' => x = .returned (.int .i64 (ls.length : Int)) ∧ W' = W) := Lib.hid (fun W h _ => len_any h.rx)
        obtain ⟨B, d, hyA⟩ := HPL.out.ry
        have HSX : Hid (∀ W, Below wr.heap.size wr W → W.cell? ⟨yb, 0, none⟩ = some (.slice B ls.length d) ∧ Below wr.heap.size wr W) := Lib.hid (fun W h => ⟨(hyA.below h).cell, h⟩)
        have HST : Hid (∀ W, Below wr.heap.size wr W → Pl b0 W bx yb ls ls ∧ Below b0 w W) := Lib.hid (fun W h => ⟨HPF.out.below h, HBR.out.trans (h.mono (by obtain ⟨_, _, _, _, h⟩ := HPF.out; exact h.bs))⟩)
        have HLD : Hid (∀ W, Below wr.heap.size wr W → Calls Tryd.prog 22 #[.pointer (some ⟨bx, 0, none⟩)] W fun x W' => x = .returned (.int .i64 (ls.length : Int)) ∧ Below wr.heap.size wr W') := Lib.hid (fun W h => (HLN.out W (HST.out W h).1 (HST.out W h).2).mono fun x W' g => ⟨g.1, by rw [g.2]; exact h⟩)
        have hlq : ((ls.length : Int) == (ls.length : Int)) = true := by simp
        generalize ls.length = n at *
        clear hyA HLN HPL HPF HBR
        go_upto_region 9 with fail
        go_region_held3 (fun W => W.cell? ⟨yb, 0, none⟩ = some (.slice B n d) ∧ Below wr.heap.size wr W)
          (first | exact HSX.out _ ((Below.refl _ _).drew) | exact HSX.out _ (by assumption))
          (first | (go_at_call 22; with_reducible refine (HLD.out _ (by first | assumption | exact (Below.refl _ _).drew)).mono ?_; rintro x wq ⟨rfl, hbq⟩))
        all_goals
          go_wp2_with fail
          exact bodyPost_ret (v := .tuple #[.pointer (some ⟨bx, 0, none⟩), .pointer (some ⟨yb, 0, none⟩), .bool true]) (by simp [results, Tryd.results7, go_sem]) rfl (HFIN.out _ (by assumption))
end Go.Proofs.YtbfohfmipfapdaaDoor.Au

namespace Go.Proofs.YtbfohfmipfapdaaDoor.Au
set_option linter.unusedVariables false
set_option linter.unusedSimpArgs false
open Go.RowKit
open T
open V (drawn_below grown_of)
open I (alloc1 own_at own_below)

/-- A log in memory that a call made: its box b, its rows from base on. -/
def Xl (base : Nat) (W : World) (b : Nat) (l : List Et) : Prop := ∃ v r, W.heap[b]? = some (.cells #[v] 52 (0, 0)) ∧ Rw W base r v l ∧ base ≤ W.heap.size
theorem Xl.rx {base : Nat} {W : World} {b : Nat} {l : List Et} (h : Xl base W b l) : LgR W 52 b l := by
  obtain ⟨v, r, h1, h2, -⟩ := h
  obtain ⟨A, c, rfl, hc, hz, hI⟩ := h2.full
  exact ⟨A, c, h1, hc, hz, hI⟩
theorem addX {base b : Nat} {W : World} {l : List Et} {e : Et} (h : Xl base W b l) (hl : l.length ≤ 1000) (hok : EtOk e) : Calls Tryd.prog 18 #[.pointer (some ⟨b, 0, none⟩), etV e] W fun x W' => x = .returned (.int .i64 (ckE e)) ∧ Xl base W' b (addE l e) ∧ (∀ k, k < base → k ≠ b → W'.heap[k]? = W.heap[k]?) ∧ (∀ n, n ≤ b → n ≤ base → Below n W W') := by
  obtain ⟨v, r, h1, h2, h3⟩ := h
  refine (add_any hok h1 h2 hl h3).mono ?_
  rintro x W' ⟨rfl, hk, v', r', hx', hr', -⟩
  exact ⟨rfl, ⟨v', r', hx', hr', Nat.le_trans h3 hk.size⟩, fun k hk1 hk2 => hk.block k (by omega) hk2 (fun e => by have := (h2.ge k e.symm).1; omega), fun n hn hn2 => hk.below hn (fun g hg => Nat.le_trans hn2 (h2.ge g hg).1) (Nat.le_trans hn2 h3)⟩
def eA : Et := ⟨⟨#[97, 110, 110]⟩, 0, 0, ⟨#[99, 97, 116]⟩, ⟨#[97]⟩, ⟨#[111, 107]⟩⟩
def eB : Et := ⟨⟨#[98, 111, 98]⟩, 1, 0, ⟨#[108, 111, 103]⟩, ⟨#[45]⟩, ⟨#[111, 107]⟩⟩
theorem okA : okE eA = true := by decide
theorem okB : okE eB = true := by decide
theorem etA : EtOk eA := ⟨by unfold maxLen; decide, by unfold maxLen; decide, by unfold maxLen; decide, by unfold maxLen; decide, by decide⟩
theorem etB : EtOk eB := ⟨by unfold maxLen; decide, by unfold maxLen; decide, by unfold maxLen; decide, by unfold maxLen; decide, by decide⟩
theorem dec1 : P.decimal 1 = [49] := by
  rw [P.decimal, if_neg (by omega)]
  exact Lib.decDigits_one (by omega)
theorem dec0 : P.decimal 0 = [48] := by
  rw [P.decimal, if_neg (by omega)]
  exact Lib.decDigits_one (by omega)
theorem prn0 : L.print 0 0 = [48] := by
  unfold L.print
  rw [if_pos (by simp [L.catsTo]), dec0]
theorem lv_seen : seen 0 0 [eA, eB] = [eA] := by decide
theorem lv_prt : prt [eA] 1 = [49, 32, 97, 110, 110, 32, 48, 32, 99, 97, 116, 32, 97, 32, 111, 107, 10] := by
  rw [prt, prt, List.nil_append]
  show ln 1 eA = _
  have e1 : L.print eA.lv eA.ct = [48] := prn0
  unfold ln
  rw [dec1, e1]
  rfl
theorem lv_cnt : cnt 1 0 [eA, eB] = 1 := by decide
theorem lv_cnt0 : cnt 0 0 [eA, eB] = 1 := by decide
theorem seC {W : World} {b : Nat} {l : List Et} (a0 : Int) (a1 : Nat) (hl : l.length ≤ 1000) (hct : ∀ e ∈ l, e.ct < 18446744073709551616) (ha : a1 < 18446744073709551616) : SeC 13 52 b l a0 a1 (seen a0 a1 l) := fun W h => seen_any a0 a1 h hl hct ha
theorem rseC {W : World} {b : Nat} {l : List Et} (a0 : Int) (a1 : Nat) (hl : l.length ≤ 1000) (hct : ∀ e ∈ l, e.ct < 18446744073709551616) : SeC 14 50 b l a0 a1 (seen a0 a1 l) := fun W h => rseen_any a0 a1 h hl hct
theorem lv_print {b : Nat} {W : World} (h : LgR W 52 b [eA, eB]) (hT : Tab W) : Calls Tryd.prog 15 #[.pointer (some ⟨b, 0, none⟩), .agg #[.int .i64 0, .int .u64 0]] W (PrEnd W [49, 32, 97, 110, 110, 32, 48, 32, 99, 97, 116, 32, 97, 32, 111, 107, 10]) := by
  have := print_any (a0 := 0) (a1 := 0) h (seC (W := W) 0 0 (by decide) (by intro e he; simp at he; rcases he with rfl | rfl <;> decide) (by decide)) (by rw [lv_seen]; decide) (by rw [lv_seen]; intro e he; simp at he; subst he; exact okA) (by rw [lv_seen]; intro e he; simp at he; subst he; decide) hT
  rw [lv_seen, show ([eA] : List Et).length = 1 from rfl, lv_prt] at this
  exact this
theorem lv_of {b : Nat} {W : World} (h : LgR W 52 b [eA, eB]) : Calls Tryd.prog 9 #[.pointer (some ⟨b, 0, none⟩), .agg #[.int .i64 1, .int .u64 0]] W fun e w' => e = .returned (.int .i64 1) ∧ Below W.heap.size W w' := by
  have := of_any 1 0 h (by decide)
  rw [lv_cnt] at this
  exact this
theorem lv_full {b : Nat} {W : World} (h : LgR W 52 b [eA, eB]) : Calls Tryd.prog 11 #[.pointer (some ⟨b, 0, none⟩), .agg #[.int .i64 0, .int .u64 0], .int .i64 1] W fun e w' => e = .returned (.bool true) ∧ Below W.heap.size W w' :=
  full_any (a0 := 0) (a1 := 0) (n := 1) 1 h (Lib.hid (show OfC _ _ _ _ 0 0 1 from fun W h => by have := of_any 0 0 h (by decide); rw [lv_cnt0] at this; exact this))
set_option maxRecDepth 100000 in
set_option maxHeartbeats 4000000 in
theorem live20_walk (w : World) (HT : Hid (Tab w)) : Calls Tryd.prog 8 #[] w fun e w' => e = .returned (.bool true) ∧ Below w.heap.size w w' := by
  have HNW := Lib.hid (new_any w)
  obtain ⟨W3, hW3⟩ : ∃ W : World, W = ((w.alloc (.cells #[.slice none 0 0] 52)).alloc (.cells #[.string ⟨#[97, 110, 110]⟩, .int .i64 0, .int .u64 0, .string ⟨#[99, 97, 116]⟩, .string ⟨#[97]⟩, .string ⟨#[111, 107]⟩] 40)).alloc (.cells #[.string ⟨#[98, 111, 98]⟩, .int .i64 1, .int .u64 0, .string ⟨#[108, 111, 103]⟩, .string ⟨#[45]⟩, .string ⟨#[111, 107]⟩] 40) := ⟨_, rfl⟩
  have HB3 := Lib.hid (show Below w.heap.size w W3 by rw [hW3]; exact ((alloc1 _ _).alloc (by simp) _).alloc (by simp; omega) _)
  have hz3 : W3.heap.size = w.heap.size + 3 := by rw [hW3]; simp
  have hx3 : W3.heap[w.heap.size]? = some (.cells #[.slice none 0 0] 52 (0, 0)) := by
    rw [hW3, Below.heap_alloc _ _ _ (by simp; omega), Below.heap_alloc _ _ _ (by simp)]; exact heap_alloc_new w _
  have ha3 : W3.heap[w.heap.size + 1]? = some (.cells #[.string ⟨#[97, 110, 110]⟩, .int .i64 0, .int .u64 0, .string ⟨#[99, 97, 116]⟩, .string ⟨#[97]⟩, .string ⟨#[111, 107]⟩] 40 (0, 0)) := by
    rw [hW3, Below.heap_alloc _ _ _ (by simp)]; exact at_new _ (by simp)
  have hb3 : W3.heap[w.heap.size + 1 + 1]? = some (.cells #[.string ⟨#[98, 111, 98]⟩, .int .i64 1, .int .u64 0, .string ⟨#[108, 111, 103]⟩, .string ⟨#[45]⟩, .string ⟨#[111, 107]⟩] 40 (0, 0)) := by
    rw [hW3]; exact at_new _ (by simp)
  have HX3 : Hid (Xl W3.heap.size W3 w.heap.size []) := Lib.hid ⟨_, none, hx3, .inl ⟨World.ownsRow_nil _ _ _ _, rfl⟩, Nat.le_refl _⟩
  obtain ⟨bx, hbx⟩ : ∃ q, q = w.heap.size := ⟨_, rfl⟩
  obtain ⟨ba, hba⟩ : ∃ q, q = w.heap.size + 1 := ⟨_, rfl⟩
  obtain ⟨bb, hbb⟩ : ∃ q, q = w.heap.size + 1 + 1 := ⟨_, rfl⟩
  rw [← hbx] at HX3
  rw [← hba] at ha3
  rw [← hbb] at hb3
  have hle1 : w.heap.size ≤ bx := by omega
  have hle2 : w.heap.size ≤ W3.heap.size := by omega
  have hbb3 : bb < W3.heap.size := by omega
  have hbbx : bb ≠ bx := by omega
  obtain ⟨s3, hs3⟩ : ∃ q, q = W3.heap.size := ⟨_, rfl⟩
  rw [← hs3] at HX3 hle2 hbb3
  have HA1 : Hid (Calls Tryd.prog 18 #[.pointer (some ⟨bx, 0, none⟩), .agg #[.string ⟨#[97, 110, 110]⟩, .int .i64 0, .int .u64 0, .string ⟨#[99, 97, 116]⟩, .string ⟨#[97]⟩, .string ⟨#[111, 107]⟩]] W3 fun x W' => x = .returned (.int .i64 0) ∧ Xl s3 W' bx [eA] ∧ W'.heap[bb]? = W3.heap[bb]? ∧ Below w.heap.size W3 W') := Lib.hid ((addX HX3.out (by simp) etA).mono fun x W' g => ⟨g.1, g.2.1, g.2.2.1 bb hbb3 hbbx, g.2.2.2 _ hle1 hle2⟩)
  have HA2 : Hid (∀ W, Xl s3 W bx [eA] → Calls Tryd.prog 18 #[.pointer (some ⟨bx, 0, none⟩), .agg #[.string ⟨#[98, 111, 98]⟩, .int .i64 1, .int .u64 0, .string ⟨#[108, 111, 103]⟩, .string ⟨#[45]⟩, .string ⟨#[111, 107]⟩]] W fun x W' => x = .returned (.int .i64 0) ∧ Xl s3 W' bx [eA, eB] ∧ Below w.heap.size W W') := Lib.hid (fun W h => (addX h (by simp) etB).mono fun x W' g => ⟨g.1, g.2.1, g.2.2.2 _ hle1 hle2⟩)
  have e0 := L.blk_cell ha3 0
  have e1 := L.blk_cell ha3 1
  have e2 := L.blk_cell ha3 2
  have e3 := L.blk_cell ha3 3
  have e4 := L.blk_cell ha3 4
  have e5 := L.blk_cell ha3 5
  simp only [List.getElem?_toArray, List.getElem?_cons_zero, List.getElem?_cons_succ] at e0 e1 e2 e3 e4 e5
  have HB := Lib.hid hb3
  clear hz3 hx3 ha3 hb3 hs3 HX3 hbb3 hbbx
  go_enter Tryd.func8, Tryd.ntmps8
  go_wp2_with fail
  with_reducible refine HNW.out.mono ?_
  rintro e w1 ⟨rfl, rfl⟩
  go_upto_region 3 with fail
  try simp only [World.size_alloc]
  rw [← hW3, ← hbb, ← hba, ← hbx]
  clear hW3 hbb hba hbx HNW
  go_wp2_with fail
  with_reducible refine HA1.out.mono ?_
  rintro x w4 ⟨rfl, hx4, hh4, hb4⟩
  have HX4 := Lib.hid hx4
  have HB4 := Lib.hid (HB3.out.trans hb4)
  have hb5 := hh4.trans HB.out
  clear e0 e1 e2 e3 e4 e5 hx4 hh4 hb4 HA1 HB
  have e0 := L.blk_cell hb5 0
  have e1 := L.blk_cell hb5 1
  have e2 := L.blk_cell hb5 2
  have e3 := L.blk_cell hb5 3
  have e4 := L.blk_cell hb5 4
  have e5 := L.blk_cell hb5 5
  simp only [List.getElem?_toArray, List.getElem?_cons_zero, List.getElem?_cons_succ] at e0 e1 e2 e3 e4 e5
  clear hb5
  go_wp2_with fail
  with_reducible refine (HA2.out _ HX4.out).mono ?_
  rintro x w5 ⟨rfl, hx5, hb5⟩
  have HL5 := Lib.hid hx5.rx
  have HB5 := Lib.hid (HB4.out.trans hb5)
  have HP5 := Lib.hid (lv_print hx5.rx (Tab.below HT.out HB5.out (Tab.size HT.out)))
  clear e0 e1 e2 e3 e4 e5 hx5 hb5 HA2 HX4 HB4
  go_wp2_with fail
  with_reducible refine HP5.out.mono ?_
  rintro x w6 ⟨PB, pc, rfl, hpi, hb6⟩
  have HL6 := Lib.hid (HL5.out.below hb6)
  have HB6 := Lib.hid (HB5.out.trans (hb6.mono HB5.out.size))
  have hcv := conv_in pc hpi
  have HLN := Lib.hid (len_any HL6.out)
  have HOF := Lib.hid (lv_of HL6.out)
  clear hpi hb6 HL5 HB5 HP5
  simp only [List.length_cons, List.length_nil, Nat.zero_add, Nat.reduceAdd] at hcv HLN
  go_wp2_with fail
  with_reducible refine HLN.out.mono ?_
  rintro x w7 ⟨rfl, rfl⟩
  clear HLN hcv
  go_wp2_with fail
  with_reducible refine HOF.out.mono ?_
  rintro x w8 ⟨rfl, hb8⟩
  have HL8 := Lib.hid (HL6.out.below hb8)
  have HB8 := Lib.hid (HB6.out.trans (hb8.mono HB6.out.size))
  have HFU := Lib.hid (lv_full HL8.out)
  clear hb8 HOF HL6 HB6
  go_wp2_with fail
  with_reducible refine HFU.out.mono ?_
  rintro x w9 ⟨rfl, hb9⟩
  have HB9 := Lib.hid (HB8.out.trans (hb9.mono HB8.out.size))
  clear hb9 HFU HL8 HB8
  go_wp2_with fail
  go_ret
  exact ⟨by rfl, HB9.out⟩
theorem live20 (w : World) (hT : Tab w) : Calls Tryd.prog 8 #[] w fun e w' => e = .returned (.bool true) ∧ Below w.heap.size w w' := live20_walk w (Lib.hid hT)
end Go.Proofs.YtbfohfmipfapdaaDoor.Au

namespace Go.Proofs.YtbfohfmipfapdaaDoor.Au
set_option linter.unusedVariables false
set_option linter.unusedSimpArgs false
open Go.RowKit
open T
open V (drawn_below grown_of)
open I (alloc1 own_at own_below)

theorem lab_cells {W : World} {b : Nat} {x0 : Int} {x1 : Int} (h : W.heap[b]? = some (.cells #[.int .i64 x0, .int .u64 x1] 25 (0, 0))) : W.cell? ⟨b, 0, none⟩ = some (.int .i64 x0) ∧ W.cell? ⟨b, 1, none⟩ = some (.int .u64 x1) := ⟨L.blk_cell h 0, L.blk_cell h 1⟩
def ScC (fn : FuncId) (t : TypeId) (b : Nat) (l : List Et) (a0 : Int) (a1 : Nat) (s : List Et) : Prop := ∀ W : World, LgR W t b l → Calls Tryd.prog fn #[.pointer (some ⟨b, 0, none⟩), .agg #[.int .i64 a0, .int .u64 (a1 : Int)]] W fun e w' => ∃ A c, e = .returned (.slice A s.length c) ∧ s.length ≤ c ∧ EtsIn w' A s ∧ Below W.heap.size W w'
theorem ScC.at {fn : FuncId} {t : TypeId} {b : Nat} {l : List Et} {a0 : Int} {a1 : Nat} {s : List Et} (h : ScC fn t b l a0 a1 s) {W : World} (h1 : LgR W t b l) : Calls Tryd.prog fn #[.pointer (some ⟨b, 0, none⟩), .agg #[.int .i64 a0, .int .u64 (a1 : Int)]] W fun e w' => ∃ A c, e = .returned (.slice A s.length c) ∧ s.length ≤ c ∧ EtsIn w' A s ∧ Below W.heap.size W w' := h W h1
theorem SeC.sc {fn : FuncId} {t : TypeId} {b : Nat} {l : List Et} {a0 : Int} {a1 : Nat} {s : List Et} (h : SeC fn t b l a0 a1 s) : ScC fn t b l a0 a1 s := fun W h1 => (h W h1).mono fun e w' g => by
  obtain ⟨A, c, he, ho, hb⟩ := g
  obtain ⟨A', c', hv, hc, -⟩ := own_form ho
  injection hv with _ _ hv
  subst hv
  exact ⟨A, c, he, hc, ets_own ho, hb⟩
def PrC (t : TypeId) (fn : FuncId) (b : Nat) (l : List Et) (a0 : Int) (a1 : Nat) (x : List UInt8) : Prop := ∀ W : World, LgR W t b l → Tab W → Calls Tryd.prog fn #[.pointer (some ⟨b, 0, none⟩), .agg #[.int .i64 a0, .int .u64 (a1 : Int)]] W (PrEnd W x)
theorem PrC.at {t : TypeId} {fn : FuncId} {b : Nat} {l : List Et} {a0 : Int} {a1 : Nat} {x : List UInt8} (h : PrC t fn b l a0 a1 x) {W : World} (h1 : LgR W t b l) (h2 : Tab W) : Calls Tryd.prog fn #[.pointer (some ⟨b, 0, none⟩), .agg #[.int .i64 a0, .int .u64 (a1 : Int)]] W (PrEnd W x) := h W h1 h2
def SmC (l : List Et) : Prop := ∀ (W : World) (A B : Option Addr) (c d : Nat), EtsIn W A l → EtsIn W B l → Calls Tryd.prog 12 #[.slice A l.length c, .slice B l.length d] W fun e w' => e = .returned (.bool true) ∧ Below W.heap.size W w'
theorem SmC.at {l : List Et} (h : SmC l) {W : World} {A B : Option Addr} {c d : Nat} (h1 : EtsIn W A l) (h2 : EtsIn W B l) : Calls Tryd.prog 12 #[.slice A l.length c, .slice B l.length d] W fun e w' => e = .returned (.bool true) ∧ Below W.heap.size W w' := h W A B c d h1 h2
def FuC (b : Nat) (l : List Et) (a0 : Int) (a1 : Nat) (q : Int) (v : Bool) : Prop := ∀ W : World, LgR W 52 b l → Calls Tryd.prog 11 #[.pointer (some ⟨b, 0, none⟩), .agg #[.int .i64 a0, .int .u64 (a1 : Int)], .int .i64 q] W fun e w' => e = .returned (.bool v) ∧ Below W.heap.size W w'
theorem FuC.at {b : Nat} {l : List Et} {a0 : Int} {a1 : Nat} {q : Int} {v : Bool} (h : FuC b l a0 a1 q v) {W : World} (h1 : LgR W 52 b l) : Calls Tryd.prog 11 #[.pointer (some ⟨b, 0, none⟩), .agg #[.int .i64 a0, .int .u64 (a1 : Int)], .int .i64 q] W fun e w' => e = .returned (.bool v) ∧ Below W.heap.size W w' := h W h1
/-- Entries in a log whose numbers are those of a machine. -/
structure LsOk (l : List Et) : Prop where
  n : l.length ≤ 1000
  ok : ∀ e ∈ l, okE e = true
  ct : ∀ e ∈ l, e.ct < 18446744073709551616
theorem fine_ls {l : List Et} (h : ∀ e ∈ l, EtOk e) : LsOk (fine (l.take 60)) := ⟨Nat.le_trans (fine_len l 60) (by omega), fine_ok, fun e he => (h e (List.mem_of_mem_take (List.mem_filter.1 he).1)).ct⟩
theorem LsOk.add {l : List Et} {e : Et} (h : LsOk l) (hl : l.length ≤ 900) (he : EtOk e) : LsOk (addE l e) := ⟨Nat.le_trans (addE_len l e) (by omega), add_ok h.ok e, fun x hx => by
  unfold addE at hx
  split at hx
  · rcases List.mem_append.1 hx with hx | hx
    · exact h.ct x hx
    · rw [List.mem_singleton.1 hx]; exact he.ct
  · exact h.ct x hx⟩
section
variable {b : Nat} {l : List Et} {a0 : Int} {a1 : Nat}
theorem c_of (h : LsOk l) : OfC 9 52 b l a0 a1 (cnt a0 a1 l) := fun W h1 => of_any a0 a1 h1 h.n
theorem c_rof (h : LsOk l) : OfC 10 50 b l a0 a1 (cnt a0 a1 l) := fun W h1 => rof_any a0 a1 h1 h.n
theorem c_full (h : LsOk l) (q : Int) : FuC b l a0 a1 q (decide (q ≤ (cnt a0 a1 l : Int))) := fun W h1 => full_any q h1 (Lib.hid (c_of h))
theorem c_seen0 (h : LsOk l) (ha : a1 < 18446744073709551616) : SeC 13 52 b l a0 a1 (seen a0 a1 l) := fun W h1 => seen_any a0 a1 h1 h.n h.ct ha
theorem c_rseen0 (h : LsOk l) : SeC 14 50 b l a0 a1 (seen a0 a1 l) := fun W h1 => rseen_any a0 a1 h1 h.n h.ct
theorem c_seen (h : LsOk l) (ha : a1 < 18446744073709551616) : ScC 13 52 b l a0 a1 (seen a0 a1 l) := (c_seen0 h ha).sc
theorem c_rseen (h : LsOk l) : ScC 14 50 b l a0 a1 (seen a0 a1 l) := (c_rseen0 h).sc
theorem c_print (h : LsOk l) (ha : a1 < 18446744073709551616) : PrC 52 15 b l a0 a1 (text a0 a1 l) := fun W h1 h2 =>
  print_any h1 (c_seen0 h ha) (Nat.le_trans (seen_len _ _ _) h.n) (seen_ok h.ok) (fun e he => h.ct e (List.mem_filter.1 he).1) h2
theorem c_rprint (h : LsOk l) : PrC 50 16 b l a0 a1 (text a0 a1 l) := fun W h1 _ =>
  rprint_any h1 (c_rseen0 h) (Nat.le_trans (seen_len _ _ _) h.n) (seen_ok h.ok)
theorem c_same (h : l.length ≤ 1000) : SmC l := fun W A B c d h1 h2 => same_any W h1 h2 h
end
/-! A nil log. -/
section
set_option maxRecDepth 100000
theorem nil_add (v : Value) (w : World) : Calls Tryd.prog 18 #[.pointer none, .agg #[.string ⟨#[]⟩, .int .i64 0, .int .u64 0, .string ⟨#[]⟩, .string ⟨#[]⟩, .string ⟨#[]⟩]] w fun e w' => e = .returned (.int .i64 1) ∧ Below w.heap.size w w' := by
  go_enter Tryd.func18, Tryd.ntmps18
  go_wp2_with fail
  go_ret
  exact ⟨rfl, alloc1 _ _⟩
theorem nil_len (w : World) : Calls Tryd.prog 22 #[.pointer none] w fun e w' => e = .returned (.int .i64 0) ∧ Below w.heap.size w w' := by
  go_enter Tryd.func22, Tryd.ntmps22
  go_wp2_with fail
  go_ret
  exact ⟨rfl, Below.refl _ _⟩
theorem nil_of (a0 a1 : Int) (w : World) : Calls Tryd.prog 9 #[.pointer none, .agg #[.int .i64 a0, .int .u64 a1]] w fun e w' => e = .returned (.int .i64 0) ∧ Below w.heap.size w w' := by
  go_enter Tryd.func9, Tryd.ntmps9
  go_wp2_with fail
  go_ret
  exact ⟨rfl, alloc1 _ _⟩
theorem nil_seen (a0 a1 : Int) (w : World) : Calls Tryd.prog 13 #[.pointer none, .agg #[.int .i64 a0, .int .u64 a1]] w fun e w' => e = .returned (.slice none 0 0) ∧ Below w.heap.size w w' := by
  go_enter Tryd.func13, Tryd.ntmps13
  go_wp2_with fail
  go_ret
  exact ⟨rfl, alloc1 _ _⟩
theorem nil_print (a0 a1 : Int) (w : World) : Calls Tryd.prog 15 #[.pointer none, .agg #[.int .i64 a0, .int .u64 a1]] w fun e w' => e = .returned (.slice none 0 0) ∧ Below w.heap.size w w' := by
  obtain ⟨W0, hW0⟩ : ∃ W : World, W = w.alloc (.cells #[.int .i64 a0, .int .u64 a1] 25) := ⟨_, rfl⟩
  have HB0 := Lib.hid (show Below w.heap.size w W0 by rw [hW0]; exact alloc1 _ _)
  have hx0 : W0.heap[w.heap.size]? = some (.cells #[.int .i64 a0, .int .u64 a1] 25 (0, 0)) := by rw [hW0]; exact heap_alloc_new w _
  obtain ⟨y0, y1⟩ := lab_cells hx0
  have HN := Lib.hid (nil_seen a0 a1 W0)
  clear hx0
  go_enter Tryd.func15, Tryd.ntmps15
  go_upto_region 1 with fail
  rw [← hW0]
  clear hW0
  go_wp2_with fail
  with_reducible refine HN.out.mono ?_
  rintro e w1 ⟨rfl, hb1⟩
  have HB1 := Lib.hid (HB0.out.trans (hb1.mono HB0.out.size))
  clear y0 y1 hb1 HN HB0
  go_wp2_with fail
  go_loopg [5, 12] 0 (fun q v i wr => v = .slice none 0 0 ∧ i = .int .i64 0 ∧ wr = w1)
  case atStart => exact ⟨rfl, rfl, rfl⟩
  case round =>
    obtain ⟨rfl, rfl, rfl⟩ := hrel
    go_wp2_with fail
    go_ret
    exact ⟨rfl, HB1.out⟩
theorem nil_full (a0 a1 q : Int) (w : World) : Calls Tryd.prog 11 #[.pointer none, .agg #[.int .i64 a0, .int .u64 a1], .int .i64 q] w fun e w' => e = .returned (.bool false) ∧ Below w.heap.size w w' := by
  go_enter Tryd.func11, Tryd.ntmps11
  go_wp2_with fail
  go_ret
  exact ⟨rfl, alloc1 _ _⟩
theorem nil_fork (w : World) : Calls Tryd.prog 19 #[.pointer none] w fun e w' => e = .returned (.pointer none) ∧ Below w.heap.size w w' := by
  go_enter Tryd.func19, Tryd.ntmps19
  go_wp2_with fail
  go_ret
  exact ⟨rfl, Below.refl _ _⟩
end
end Go.Proofs.YtbfohfmipfapdaaDoor.Au

namespace Go.Proofs.YtbfohfmipfapdaaDoor.RP
open Go.ChangeShapes Go.WideShapes Go.ChangeAt Go.RowKit Go.Deep Go.Joins

theorem cInt : Tryd.prog.cellsOf 3 = 1 := by kernel_rfl
theorem cU64 : Tryd.prog.cellsOf 23 = 1 := by kernel_rfl
theorem cStr : Tryd.prog.cellsOf 9 = 1 := by kernel_rfl
theorem cBool : Tryd.prog.cellsOf 4 = 1 := by kernel_rfl
theorem cLabel : Tryd.prog.cellsOf 25 = 2 := by kernel_rfl

section
variable {H : Type} {enc : TypeId × Value → H} {w : World} {base : Nat} {spare : Nat → Bool} {held : Bool} {fuel : Nat} {cs : List Value} {x : DataW H × List MemPlace}
theorem list2 {α : Type} {l : List α} (h : l.length = 2) : ∃ a b, l = [a, b] := by
  match l, h with
  | [a, b], _ => exact ⟨a, b, rfl⟩
theorem list3 {α : Type} {l : List α} (h : l.length = 3) : ∃ a b c, l = [a, b, c] := by
  match l, h with
  | [a, b, c], _ => exact ⟨a, b, c, rfl⟩
theorem list4 {α : Type} {l : List α} (h : l.length = 4) : ∃ a b c d, l = [a, b, c, d] := by
  match l, h with
  | [a, b, c, d], _ => exact ⟨a, b, c, d, rfl⟩
theorem list9 {α : Type} {l : List α} (h : l.length = 9) : ∃ a b c d e f g i j, l = [a, b, c, d, e, f, g, i, j] := by
  match l, h with
  | [a, b, c, d, e, f, g, i, j], _ => exact ⟨a, b, c, d, e, f, g, i, j, rfl⟩
/-- A label's two cells. -/
theorem label_read (h : DataW.trod enc Tryd.prog w base spare held fuel 25 cs = some x) : ∃ (l : Int) (k : Nat), cs = [.int .i64 l, .int .u64 (k : Int)] ∧ k < 18446744073709551616 ∧ -9223372036854775808 ≤ l ∧ l ≤ 9223372036854775807 := by
  obtain ⟨y0, y1, n, -, hl, h0, h1⟩ := trod_struct2 Tryd.underlying25 h
  dsimp only at h0 h1
  rw [cLabel] at hl
  rw [cInt] at h0
  rw [cU64] at h1
  obtain ⟨a, b, rfl⟩ := list2 hl
  obtain ⟨l, e0, -, w0⟩ := DataW.trod_int Tryd.underlying3 h0
  obtain ⟨k, e1, -, w1⟩ := DataW.trod_int Tryd.underlying23 h1
  have e0' : a = .int .i64 l := by injection e0
  have e1' : b = .int .u64 k := by injection e1
  obtain ⟨m, rfl⟩ := Int.eq_ofNat_of_zero_le (bounds_u64 w1).1
  exact ⟨l, m, by rw [e0', e1'], by have := (bounds_u64 w1).2; omega, (bounds_i64 w0).1, (bounds_i64 w0).2⟩
end
end Go.Proofs.YtbfohfmipfapdaaDoor.RP

namespace Go.Proofs.YtbfohfmipfapdaaDoor.RE
set_option linter.unusedVariables false
set_option linter.unusedSimpArgs false
open Go.ChangeShapes Go.WideShapes Go.ChangeAt Go.RowKit Go.Deep Go.Joins

theorem cEnt : Tryd.prog.cellsOf 40 = 6 := by kernel_rfl
section
variable {H : Type} {enc : TypeId × Value → H} {w : World} {base : Nat} {spare : Nat → Bool} {held : Bool} {fuel : Nat} {cs : List Value} {x : DataW H × List MemPlace}
theorem list6 {α : Type} {l : List α} (h : l.length = 6) : ∃ a b c d e f, l = [a, b, c, d, e, f] := by
  match l, h with
  | [a, b, c, d, e, f], _ => exact ⟨a, b, c, d, e, f, rfl⟩
theorem list5 {α : Type} {l : List α} (h : l.length = 5) : ∃ a b c d e, l = [a, b, c, d, e] := by
  match l, h with
  | [a, b, c, d, e], _ => exact ⟨a, b, c, d, e, rfl⟩
set_option maxRecDepth 100000 in
theorem ent_fields {c0 c1 c2 c3 c4 c5 : Value} (h : DataW.trod enc Tryd.prog w base spare held fuel 40 [c0, c1, c2, c3, c4, c5] = some x) :
    ∃ (n : Nat) (y0 y1 y2 y3 y4 : DataW H × List MemPlace), DataW.trod enc Tryd.prog w base spare held n 9 [c0] = some y0 ∧ DataW.trod enc Tryd.prog w base spare held n 25 [c1, c2] = some y1 ∧ DataW.trod enc Tryd.prog w base spare held n 9 [c3] = some y2 ∧ DataW.trod enc Tryd.prog w base spare held n 9 [c4] = some y3 ∧ DataW.trod enc Tryd.prog w base spare held n 9 [c5] = some y4 := by
  obtain ⟨xs, n, -, -, -, hlen, hf⟩ := DataW.trod_struct Tryd.underlying40 h
  have hlen : xs.length = 5 := hlen
  obtain ⟨y0, y1, y2, y3, y4, rfl⟩ := list5 hlen
  refine ⟨n, y0, y1, y2, y3, y4, ?_, ?_, ?_, ?_, ?_⟩
  · have this : DataW.trod enc Tryd.prog w base spare held n 9 (([c0, c1, c2, c3, c4, c5].drop 0).take (Tryd.prog.cellsOf 9)) = [y0, y1, y2, y3, y4][0]? := hf 0 _ rfl
    rw [RP.cStr] at this
    exact this
  · have this : DataW.trod enc Tryd.prog w base spare held n 25 (([c0, c1, c2, c3, c4, c5].drop 1).take (Tryd.prog.cellsOf 25)) = [y0, y1, y2, y3, y4][1]? := hf 1 _ rfl
    rw [RP.cLabel] at this
    exact this
  · have this : DataW.trod enc Tryd.prog w base spare held n 9 (([c0, c1, c2, c3, c4, c5].drop 3).take (Tryd.prog.cellsOf 9)) = [y0, y1, y2, y3, y4][2]? := hf 2 _ rfl
    rw [RP.cStr] at this
    exact this
  · have this : DataW.trod enc Tryd.prog w base spare held n 9 (([c0, c1, c2, c3, c4, c5].drop 4).take (Tryd.prog.cellsOf 9)) = [y0, y1, y2, y3, y4][3]? := hf 3 _ rfl
    rw [RP.cStr] at this
    exact this
  · have this : DataW.trod enc Tryd.prog w base spare held n 9 (([c0, c1, c2, c3, c4, c5].drop 5).take (Tryd.prog.cellsOf 9)) = [y0, y1, y2, y3, y4][4]? := hf 4 _ rfl
    rw [RP.cStr] at this
    exact this
/-- An entry's six cells. -/
theorem ent_read (hl : cs.length = 6) (h : DataW.trod enc Tryd.prog w base spare held fuel 40 cs = some x) : ∃ u : Au.Et, cs = [.string u.us, .int .i64 u.lv, .int .u64 (u.ct : Int), .string u.ve, .string u.fi, .string u.oc] ∧ Au.EtOk u := by
  obtain ⟨c0, c1, c2, c3, c4, c5, rfl⟩ := list6 hl
  obtain ⟨n, y0, y1, y2, y3, y4, h0, h1, h2, h3, h4⟩ := ent_fields h
  obtain ⟨s0, e0, -, z0⟩ := DataW.trod_string Tryd.underlying9 h0
  obtain ⟨l, k, e1, hk, hl1, hl2⟩ := RP.label_read h1
  obtain ⟨s2, e2, -, z2⟩ := DataW.trod_string Tryd.underlying9 h2
  obtain ⟨s3, e3, -, z3⟩ := DataW.trod_string Tryd.underlying9 h3
  obtain ⟨s4, e4, -, z4⟩ := DataW.trod_string Tryd.underlying9 h4
  have e0' : c0 = .string s0 := by injection e0
  have e1' : c1 = .int .i64 l ∧ c2 = .int .u64 (k : Int) := by injection e1 with p q; injection q with q; exact ⟨p, q⟩
  have e2' : c3 = .string s2 := by injection e2
  have e3' : c4 = .string s3 := by injection e3
  have e4' : c5 = .string s4 := by injection e4
  exact ⟨⟨s0, l, k, s2, s3, s4⟩, by rw [e0', e1'.1, e1'.2, e2', e3', e4'], ⟨z0, z2, z3, z4, hk⟩⟩
instance : Inhabited Au.Et := ⟨⟨⟨#[]⟩, 0, 0, ⟨#[]⟩, ⟨#[]⟩, ⟨#[]⟩⟩⟩
theorem ents_read (h : DataW.trod enc Tryd.prog w base spare held fuel 22 cs = some x) : ∃ (A : Option Addr) (cap : Nat) (us : List Au.Et), cs = [.slice A us.length cap] ∧ us.length ≤ maxLen ∧ Au.EtsIn w A us ∧ ∀ u ∈ us, Au.EtOk u := by
  rcases open_slice Tryd.underlying22 h with ⟨hcs, hx⟩ | ⟨a, len, cap, m, n, D, Pl, hcs, _, hl, hm, hmm, hx, hcell⟩
  · exact ⟨none, 0, [], hcs, Nat.zero_le _, fun h => absurd h (by simp), fun x hx => (by cases hx)⟩
  have hle : len ≤ m := by rw [hmm]; split <;> omega
  obtain ⟨f, hf⟩ := choose_lt (n := len) (p := fun i (u : Au.Et) => (w.cell? (a.add (i * 6 + 0)) = some (.string u.us) ∧ w.cell? (a.add (i * 6 + 1)) = some (.int .i64 u.lv) ∧ w.cell? (a.add (i * 6 + 2)) = some (.int .u64 (u.ct : Int)) ∧ w.cell? (a.add (i * 6 + 3)) = some (.string u.ve) ∧ w.cell? (a.add (i * 6 + 4)) = some (.string u.fi) ∧ w.cell? (a.add (i * 6 + 5)) = some (.string u.oc)) ∧ Au.EtOk u) (fun i hi => by
    obtain ⟨cs', c1, c2⟩ := hcell i (by omega)
    rw [cEnt] at c1
    obtain ⟨_, hlen, hat⟩ := World.cells?_some c1
    obtain ⟨u, rfl, hu⟩ := ent_read (by simpa using hlen) c2
    have q0 := hat 0 (by omega)
    have q1 := hat 1 (by omega)
    have q2 := hat 2 (by omega)
    have q3 := hat 3 (by omega)
    have q4 := hat 4 (by omega)
    have q5 := hat 5 (by omega)
    rw [Go.Deep.add_add] at q0 q1 q2 q3 q4 q5
    exact ⟨u, ⟨q0, q1, q2, q3, q4, q5⟩, hu⟩)
  have htl : ((List.range len).map f).length = len := by simp
  refine ⟨some a, cap, (List.range len).map f, by rw [htl, hcs], by rw [htl]; omega, fun hp => ?_, fun u hu => ?_⟩
  · rw [htl] at hp
    obtain ⟨bk, off, spot⟩ := a
    have hspot : spot = none := by simpa [Addr.add] using World.cell?_spot (hf 0 hp).1.1
    subst hspot
    have h0 := (hf 0 hp).1.1
    refine ⟨bk, off, rfl, World.block_lt_of_cell? w _ h0, fun j hj => ?_⟩
    rw [htl] at hj
    have := (hf j hj).1
    simp only [add_plain, ← Nat.add_assoc, Nat.add_zero] at this
    simp only [List.getElem_map, List.getElem_range]
    exact this
  · obtain ⟨i, hi, rfl⟩ := List.mem_map.1 hu
    exact (hf i (List.mem_range.1 hi)).2
set_option maxRecDepth 100000 in
theorem ents_arg {r : Reach} {b0 : Nat} {v : Value} {d : DataW H} {p : List MemPlace} (hv : Value.okWide Tryd.prog w r b0 22 v) (h : DataW.Trod enc Tryd.prog w base spare held 22 v d p) :
    ∃ (A : Option Addr) (cap : Nat) (us : List Au.Et), v = .slice A us.length cap ∧ us.length ≤ maxLen ∧ Au.EtsIn w A us ∧ ∀ u ∈ us, Au.EtOk u := by
  obtain ⟨a0, len, cap, rfl⟩ := okWide_slice Tryd.underlying22 hv
  obtain ⟨fuel, hf⟩ := h
  obtain ⟨A, cap', us, hcs, r⟩ := ents_read hf
  simp only [Value.cells, List.cons.injEq, Value.slice.injEq, and_true] at hcs
  obtain ⟨rfl, rfl, rfl⟩ := hcs
  exact ⟨_, _, us, rfl, r⟩
set_option maxRecDepth 100000 in
theorem ent_arg {r : Reach} {b0 : Nat} {v : Value} {d : DataW H} {p : List MemPlace} (hv : Value.okWide Tryd.prog w r b0 40 v) (h : DataW.Trod enc Tryd.prog w base spare held 40 v d p) :
    ∃ u : Au.Et, v = .agg #[.string u.us, .int .i64 u.lv, .int .u64 (u.ct : Int), .string u.ve, .string u.fi, .string u.oc] ∧ Au.EtOk u := by
  obtain ⟨cs, rfl, hsz⟩ := okWide_struct Tryd.underlying40 hv
  rw [cEnt] at hsz
  obtain ⟨l⟩ := cs
  obtain ⟨fuel, hf⟩ := h
  obtain ⟨u, hu, hok⟩ := ent_read (show l.length = 6 from hsz) (show DataW.trod enc Tryd.prog w base spare held fuel 40 l = some (d, p) from hf)
  exact ⟨u, by rw [hu], hok⟩
end
end Go.Proofs.YtbfohfmipfapdaaDoor.RE
