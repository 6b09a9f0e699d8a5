/-
  The whole text of a script's hunks; few; what each law on hunks asks first (live).
  The contracts on hunks as the laws take them: one form each.
-/
import Derived.Test.YtimalohdchhjgaaGhg
import Derived.Test.YtimalohdchhjgaaGha
import Derived.Test.YtimalohdchhjgaaGsh
namespace Go.Proofs.Ytimalohdchhjgaa.H
set_option linter.unusedVariables false
set_option linter.unusedSimpArgs false
open Go.RowKit
open T S
open V (grown_of)
open I (alloc1 own_at own_below)
open N (Ln)
open M (Lv)

theorem on_stn {a : List Ln} {c : Nat} {x : Hk} (hc : Cl c x) (ht : tl x.es ≤ 400) (h : On a x) : stn a x = true := by
  obtain ⟨q, h1, h2, R, h3⟩ := h
  have hk := hc.ck ht
  unfold stn
  rw [hk.2.2.2.1, h1, hc.o]
  refine decide_eq_true ⟨by omega, ?_⟩
  simp only [Int.toNat_natCast]
  rw [h3, List.take_left]
theorem wl_good {a : List Ln} : ∀ (hs : List Hk) (p : Nat), (∀ h ∈ hs, Good3 h.es) → Good3 (wl a p hs)
  | [], p, _, e, he => by simp only [wl, List.mem_singleton] at he; subst he; exact .inl rfl
  | h :: r, p, hh, e, he => by
    rw [wl] at he
    rcases List.mem_cons.1 he with rfl | he
    · exact .inl rfl
    · rcases List.mem_append.1 he with he | he
      · exact hh h (List.mem_cons_self ..) e he
      · exact wl_good r _ (fun z hz => hh z (List.mem_cons_of_mem _ hz)) e he
theorem wl_count (a : List Ln) : ∀ (hs : List Hk) (p : Nat), (wl a p hs).length = 1 + hs.length + (join hs).length
  | [], p => by simp [wl, join]
  | h :: r, p => by
    have := wl_count a r (h.oa + h.o).toNat
    rw [wl, List.length_cons, List.length_append, this, List.length_cons, show join (h :: r) = h.es ++ join r from rfl, List.length_append]
    omega
theorem join_len_tl : ∀ (hs : List Hk), (∀ h ∈ hs, Nf h.es) → (join hs).length ≤ tl (join hs)
  | [], _ => Nat.le_refl _
  | h :: r, hh => by
    have h1 := full_len (hh h (List.mem_cons_self ..))
    have h2 := join_len_tl r (fun z hz => hh z (List.mem_cons_of_mem _ hz))
    rw [show join (h :: r) = h.es ++ join r from rfl, List.length_append, tl_app]
    omega
/-- Whole of Build of a script is its normal form. -/
theorem whl_bld {es : List Ed} (c : Nat) (hk : ck es = 0) (hl : es.length ≤ 120) (ht : tl es ≤ 120) : whl (bld c (norm es)) (sd 3 es) = (norm es, 0) := by
  have h3 := (ck_ok hk).2.2
  obtain ⟨hn1, hn2, hn3, hn4⟩ := norm_ok hk
  have hnf := nf_norm h3
  have hcl := bld_cl (c := c) hnf
  have hs3 : sd 3 (norm es) = sd 3 es := (norm_sides hk).1
  have hb := bld_wl (c := c) (norm es) hnf
  rw [hs3] at hb
  have h0 := bld_ck (c := c) hnf (by omega)
  have hsl := sd_len 3 es
  have htj := bld_tl (c := c) (norm es)
  have hall : (bld c (norm es)).all (stn (sd 3 es)) = true := by
    rw [List.all_eq_true]
    intro x hx
    have h1 := tl_mem hx
    exact on_stn (hcl x hx) (by omega) (hb.2 x hx)
  have hg : Good3 (wl (sd 3 es) 0 (bld c (norm es))) := wl_good _ _ (fun h hm => (hcl h hm).nf.good)
  have hwf : flat (wl (sd 3 es) 0 (bld c (norm es))) = flat (norm es) := hb.1
  have hwt : tl (wl (sd 3 es) 0 (bld c (norm es))) ≤ 800 := by rw [tl_flat, hwf, ← tl_flat]; omega
  have hwl : (wl (sd 3 es) 0 (bld c (norm es))).length ≤ 800 := by
    have h1 := wl_count (sd 3 es) (bld c (norm es)) 0
    have h2 := join_len_tl (bld c (norm es)) (fun h hm => (hcl h hm).nf)
    have h4 := bld_many (c := c) (norm es)
    have h5 := full_len hnf
    omega
  have hck := ck_of hwl hwt hg
  have hnm : norm (wl (sd 3 es) 0 (bld c (norm es))) = norm es := by
    have e1 : ∀ X, Good3 X → flat X = flat (norm es) → norm X = norm (norm es) := fun X h1 h2 => by
      show grp (laid X) = grp (laid (norm es))
      rw [laid_flat h1, laid_flat hn3, h2]
    rw [e1 _ hg hwf, norm_norm hk]
  unfold whl
  rw [if_pos h0, if_neg (by omega), if_pos hall, hck]
  unfold nrm
  rw [if_pos hck, hnm]
def sm (es : List Ed) : Nat := (es.map fun e => min e.2.length 200).sum
theorem sm_take {es : List Ed} {k : Nat} (hk : k < es.length) : sm (es.take (k + 1)) = sm (es.take k) + min es[k].2.length 200 := by
  unfold sm
  rw [List.take_succ_eq_append_getElem hk, List.map_append, List.sum_append, List.map_cons, List.map_nil, List.sum_cons, List.sum_nil, Nat.add_zero]
theorem sm_le : ∀ (es : List Ed), sm es ≤ es.length * 200
  | [] => Nat.le_refl _
  | e :: r => by
    have := sm_le r
    rw [show sm (e :: r) = min e.2.length 200 + sm r by simp [sm], List.length_cons]; omega
theorem sm_tl : ∀ (es : List Ed), sm es ≤ 120 → tl es = sm es
  | [], _ => rfl
  | e :: r, h => by
    rw [show sm (e :: r) = min e.2.length 200 + sm r by simp [sm]] at h ⊢
    rw [show tl (e :: r) = e.2.length + tl r by simp [tl], sm_tl r (by omega)]; omega
def FwEnd (w : World) (es : List Ed) (e : Ending) (w' : World) : Prop := ∃ v : Bool, e = .returned (.bool v) ∧ (v = true → es.length ≤ 120 ∧ tl es ≤ 120) ∧ Below w.heap.size w w'
set_option maxRecDepth 100000 in
set_option maxHeartbeats 4000000 in
theorem few_any (A : Option Addr) (c : Nat) (es : List Ed) (w : World) (hE : EdsIn 0 w A es) (hok : EdsOk es) :
    Calls Try.prog 8 #[.slice A es.length c] w (FwEnd w es) := by
  have hl := hok.len
  have HLS := Lib.hid hok.ls
  have HE := Lib.hid hE
  unfold maxLen at hl
  clear hE hok
  go_enter Try.func8, Try.ntmps8
  go_wp2_with fail
  go_loopg [4, 3] es.length (fun m iv nv wr => ∃ (k n : Nat), k ≤ es.length ∧ iv = .int .i64 k ∧ nv = .int .i64 n ∧ es.length - k ≤ m ∧ k ≤ 130 ∧ n ≤ k * 200 ∧ Hid (n = sm (es.take k)) ∧ Hid (Below w.heap.size w wr))
  case atStart => exact ⟨0, 0, Nat.zero_le _, rfl, rfl, by omega, by omega, by omega, Lib.hid rfl, Lib.hid (Below.refl _ _)⟩
  case round =>
    obtain ⟨k, n, hk, rfl, rfl, hmm, hk1, hn2, HN, HB⟩ := hrel
    by_cases hlt : k < es.length
    · have hki : (k : Int) < (es.length : Int) := by omega
      have hd1 : decide ((k : Int) < (es.length : Int)) = true := decide_eq_true hki
      by_cases h13 : k < 130
      · have hd2 : decide ((k : Int) < 130) = true := decide_eq_true (by omega)
        obtain ⟨bk, off, LA, lc, hAe, c0, c1, g2, -⟩ := edit_at HE.out HB.out hlt
        subst hAe
        have HT := Lib.hid (sm_take hlt)
        have hll := HLS.out _ (List.getElem_mem hlt)
        unfold maxLen at hll
        obtain ⟨m2, hm2⟩ : ∃ m2, m2 = min es[k].2.length 200 := ⟨_, rfl⟩
        have HM := Lib.hid hm2
        have hmi : min (es[k].2.length : Int) 200 = (m2 : Int) := by omega
        have hm200 : m2 ≤ 200 := by omega
        have hw : IntKind.i64.wrap ((n : Int) + (m2 : Int)) = ((n : Int) + (m2 : Int)) := by rw [IntKind.wrap_i64]; omega
        have h0k : (0 : Int) ≤ (k : Int) := by omega
        generalize es[k].2.length = el at *
        clear hm2 g2 c0
        go_wp2_with fail
        go_roundg (es.length - (k + 1))
        case rel => exact ⟨k + 1, n + m2, by omega, by go_num, by push_cast; rfl, Nat.le_refl _, by omega, by omega, Lib.hid (by rw [HT.out, HN.out, HM.out]), HB⟩
        case measure => omega
      · have hd2 : decide ((k : Int) < 130) = false := decide_eq_false (by omega)
        have hgt : decide ((es.length : Int) ≤ 120) = false := decide_eq_false (by omega)
        by_cases hn1 : n ≤ 120
        · have hd3 : decide ((n : Int) ≤ 120) = true := decide_eq_true (by omega)
          go_wp2_with fail
          go_ret
          exact ⟨false, rfl, (fun h => by cases h), HB.out⟩
        · have hd3 : decide ((n : Int) ≤ 120) = false := decide_eq_false (by omega)
          go_wp2_with fail
          go_ret
          exact ⟨false, rfl, (fun h => by cases h), HB.out⟩
    · obtain rfl : k = es.length := by omega
      have hd1 : decide ((es.length : Int) < (es.length : Int)) = false := by simp
      have hn : n = sm es := by have := HN.out; rwa [List.take_length] at this
      have HSM := Lib.hid hn
      by_cases hn1 : n ≤ 120
      · have hd3 : decide ((n : Int) ≤ 120) = true := decide_eq_true (by omega)
        have HT := Lib.hid (sm_tl es (by omega))
        clear hn
        go_wp2_with fail
        go_ret
        exact ⟨_, rfl, (fun h => by have h1 := of_decide_eq_true h; have := HT.out; have := HSM.out; omega), HB.out⟩
      · have hd3 : decide ((n : Int) ≤ 120) = false := decide_eq_false (by omega)
        clear hn
        go_wp2_with fail
        go_ret
        exact ⟨false, rfl, (fun h => by cases h), HB.out⟩
abbrev es9 : List Ed := [(1, [lnA, lnB]), (2, [lnC])]
abbrev hs9 : List Hk := [⟨1, 2, 1, 1, [(1, [lnB]), (2, [lnC])]⟩]
theorem nf9 : Nf es9 := by simp [Nfc, okp]
theorem norm9 : norm es9 = es9 := norm_nf nf9
theorem ck9 : ck es9 = 0 := ck_of (by simp) (by simp [tl]) (nf9.good)
theorem bld9 : bld 1 es9 = hs9 := by simp [bld, hg, putH, newH, lenO, lenN]
theorem build9 : build es9 1 = (hs9, 0) := by
  unfold build
  rw [if_pos ck9, if_neg (by omega), norm9, show (1 : Int).toNat = 1 from rfl, bld9]
theorem whole9 : whl hs9 [lnA, lnB, lnC] = (es9, 0) := by
  have := whl_bld 1 ck9 (by simp) (by simp [tl])
  rw [norm9, bld9] at this
  exact this
theorem check9 : hck hs9 = 0 := by
  have := bld_ck (c := 1) nf9 (by simp [tl])
  rwa [bld9] at this
theorem ok9 : HksOk hs9 := ⟨by simp [maxLen], fun h hm => by
  obtain rfl := List.mem_singleton.1 hm
  exact ⟨by simp [maxLen], fun e he => by simp at he; rcases he with rfl | rfl <;> simp [maxLen]⟩⟩
theorem three (w : World) (o0 o1 o2 : Obj) : ∃ W : World, W = ((w.alloc o0).alloc o1).alloc o2 ∧ W.heap[w.heap.size]? = some o0 ∧ W.heap[w.heap.size + 1]? = some o1 ∧ W.heap[w.heap.size + 1 + 1]? = some o2 ∧ Below w.heap.size w W := by
  have step : ∀ (V : World) (o : Obj) (k : Nat) (q : Obj), V.heap[k]? = some q → (V.alloc o).heap[k]? = some q := fun V o k q h => ((alloc1 V o).block k (Array.getElem?_eq_some_iff.1 h).1).trans h
  have new : ∀ (V : World) (o : Obj) (k : Nat), V.heap.size = k → (V.alloc o).heap[k]? = some o := fun V o k h => by subst h; exact heap_alloc_new V o
  refine ⟨_, rfl, ?_, ?_, ?_, ?_⟩
  · exact step _ _ _ _ (step _ _ _ _ (new _ _ _ rfl))
  · exact step _ _ _ _ (new _ _ _ (by simp))
  · exact new _ _ _ (by simp)
  · exact ((alloc1 w o0).alloc (by simp) _).alloc (by simp; omega) _
theorem lines_three {w : World} {g : Nat} {x y z : Ln} (h : w.heap[g]? = some (.cells #[.string ⟨x.1.toArray⟩, .bool x.2, .string ⟨y.1.toArray⟩, .bool y.2, .string ⟨z.1.toArray⟩, .bool z.2] 51 (0, 0))) : LinesIn w (some ⟨g, 0, none⟩) [x, y, z] := fun _ => ⟨g, 0, rfl, L.blk_lt h, fun j hj => by
  match j, hj with
  | 0, _ => exact ⟨L.blk_cell h 0, L.blk_cell h 1⟩
  | 1, _ => exact ⟨L.blk_cell h 2, L.blk_cell h 3⟩
  | 2, _ => exact ⟨L.blk_cell h 4, L.blk_cell h 5⟩⟩
set_option maxRecDepth 100000 in
set_option maxHeartbeats 4000000 in
theorem live9 : Lv 9 := fun w => by
  obtain ⟨W1, hW1, k0, k1, k2, hb1⟩ := three w (.cells #[.string ⟨#[97]⟩, .bool false, .string ⟨#[98]⟩, .bool false] 51) (.cells #[.string ⟨#[99]⟩, .bool false] 51) (.cells #[.int .i64 1, .slice (some ⟨w.heap.size, 0, none⟩) 2 2, .int .i64 2, .slice (some ⟨w.heap.size + 1, 0, none⟩) 1 1] 47)
  have hE : EdsIn 0 W1 (some ⟨w.heap.size + 1 + 1, 0, none⟩) es9 := fun _ => ⟨_, 0, rfl, Nat.zero_le _, L.blk_lt k2, fun j hj => by
    match j, hj with
    | 0, _ => exact ⟨_, 2, L.blk_cell k2 0, L.blk_cell k2 1, lines_two (x := lnA) (y := lnB) k0, by simp, (fun e => by simp at e), fun p _ => Nat.zero_le _⟩
    | 1, _ => exact ⟨_, 1, L.blk_cell k2 2, L.blk_cell k2 3, lines_ones (x := lnC) k1, by simp, (fun e => by simp at e), fun p _ => Nat.zero_le _⟩⟩
  have HBD := Lib.hid (build_any (some ⟨w.heap.size + 1 + 1, 0, none⟩) 2 0 es9 1 W1 hE ⟨by simp [maxLen], fun e he => by simp at he; rcases he with rfl | rfl <;> simp [maxLen]⟩)
  rw [build9] at HBD
  simp only [List.length_cons, List.length_nil, Nat.zero_add, Nat.reduceAdd] at HBD
  have HB1 := Lib.hid hb1
  clear k0 k1 k2 hE hb1
  go_enter Try.func9, Try.ntmps9
  go_wp2_with fail
  rw [← hW1]
  clear hW1
  with_reducible refine (HBD.out).mono ?_
  rintro e w2 ⟨HA, hcap, rfl, hH2, hb2⟩
  simp only [List.length_cons, List.length_nil, Nat.zero_add, Nat.reduceAdd]
  have HH2 := Lib.hid hH2
  have HB2 := Lib.hid (HB1.out.trans (hb2.mono HB1.out.size))
  obtain ⟨W3, hW3⟩ : ∃ W : World, W = w2.alloc (.cells #[.string ⟨#[97]⟩, .bool false, .string ⟨#[98]⟩, .bool false, .string ⟨#[99]⟩, .bool false] 51) := ⟨_, rfl⟩
  have hx3 := heap_alloc_new w2 (.cells #[.string ⟨#[97]⟩, .bool false, .string ⟨#[98]⟩, .bool false, .string ⟨#[99]⟩, .bool false] 51)
  rw [← hW3] at hx3
  have hb3 : Below w2.heap.size w2 W3 := by rw [hW3]; exact alloc1 _ _
  have HB3 := Lib.hid (HB2.out.trans (hb3.mono HB2.out.size))
  have HH3 := Lib.hid (HH2.out.below hb3)
  have HWH := Lib.hid (whole_any HA (some ⟨w2.heap.size, 0, none⟩) hcap 3 0 hs9 [lnA, lnB, lnC] W3 HH3.out ok9 (lines_three (x := lnA) (y := lnB) (z := lnC) hx3) (by simp) (by simp [maxLen]))
  rw [whole9] at HWH
  simp only [List.length_cons, List.length_nil, Nat.zero_add, Nat.reduceAdd] at HWH
  clear hH2 hb2 HBD HB1 hx3 hb3 HH2
  go_wp2_with fail
  rw [← hW3]
  clear hW3
  with_reducible refine (HWH.out).mono ?_
  rintro e w4 ⟨SA, scap, rfl, -, hb4⟩
  simp only [List.length_cons, List.length_nil, Nat.zero_add, Nat.reduceAdd]
  have HB4 := Lib.hid (HB3.out.trans (hb4.mono HB3.out.size))
  have HH4 := Lib.hid (HH3.out.below hb4)
  obtain ⟨bk, off, EA, ec, rfl, c0, c1, c2, c3, c4, -, -, -⟩ := hunk_at HH4.out (Below.refl _ _) (k := 0) (by simp)
  simp only [List.getElem_cons_zero, Nat.zero_mul, Nat.add_zero] at c0 c1 c2 c3 c4
  have HCK := Lib.hid (hcheck_any (some ⟨bk, off, none⟩) hcap 0 hs9 w4 HH4.out ok9)
  rw [check9] at HCK
  have HJN := Lib.hid (fun W h => join_any (some ⟨bk, off, none⟩) hcap 0 hs9 W (HH4.out.below h) ok9 (by simp [join]) (fun h hm e he => by obtain rfl := List.mem_singleton.1 hm; simp at he; rcases he with rfl | rfl <;> simp))
  simp only [List.length_cons, List.length_nil, Nat.zero_add, Nat.reduceAdd] at HCK HJN
  clear hb4 HWH
  go_wp2_with fail
  with_reducible refine (HCK.out).mono ?_
  rintro e w5 ⟨rfl, hb5⟩
  have HB5 := Lib.hid (HB4.out.trans (hb5.mono HB4.out.size))
  have HJ5 := Lib.hid (HJN.out w5 hb5)
  clear hb5 HCK HJN
  go_wp2_with fail
  with_reducible refine (HJ5.out).mono ?_
  rintro e w6 ⟨JA, jc, rfl, -, hb6⟩
  have HB6 := Lib.hid (HB5.out.trans (hb6.mono HB5.out.size))
  clear hb6
  have hjl : (join hs9).length = 2 := by simp [join]
  rw [hjl]
  go_wp2_with fail
  go_ret
  exact ⟨rfl, HB6.out⟩
end Go.Proofs.Ytimalohdchhjgaa.H

namespace Go.Proofs.Ytimalohdchhjgaa.H
set_option linter.unusedVariables false
set_option linter.unusedSimpArgs false
open Go.RowKit
open T S
open I (alloc1 own_at own_below)
open N (Ln)
open M (Lv)

def BdC (fn : FuncId) (es : List Ed) (x : Int) (hs : List Hk) (q : Int) : Prop := ∀ (w : World) (A : Option Addr) (c : Nat), EdsIn 0 w A es → Calls Try.prog fn #[.slice A es.length c, .int .i64 x] w (HnEnd w hs q)
def CkC (fn : FuncId) (hs : List Hk) (q : Int) : Prop := ∀ (w : World) (A : Option Addr) (c : Nat), HksIn 0 w A hs → Calls Try.prog fn #[.slice A hs.length c] w (CkEnd w q)
def JnC (fn : FuncId) (hs : List Hk) (es : List Ed) : Prop := ∀ (w : World) (A : Option Addr) (c : Nat), HksIn 0 w A hs → Calls Try.prog fn #[.slice A hs.length c] w (JnEnd w es)
def WhC (fn : FuncId) (hs : List Hk) (a : List Ln) (r : List Ed) (q : Int) : Prop := ∀ (w : World) (A B : Option Addr) (c c' : Nat), HksIn 0 w A hs → LinesIn w B a → a.length ≤ c' → Calls Try.prog fn #[.slice A hs.length c, .slice B a.length c'] w (RnEnd w r q)
theorem BdC.at {fn : FuncId} {es : List Ed} {x : Int} {hs : List Hk} {q : Int} (h : BdC fn es x hs q) {w : World} {A : Option Addr} (c : Nat) (hE : EdsIn 0 w A es) : Calls Try.prog fn #[.slice A es.length c, .int .i64 x] w (HnEnd w hs q) := h w A c hE
theorem CkC.at {fn : FuncId} {hs : List Hk} {q : Int} (h : CkC fn hs q) {w : World} {A : Option Addr} (c : Nat) (hE : HksIn 0 w A hs) : Calls Try.prog fn #[.slice A hs.length c] w (CkEnd w q) := h w A c hE
theorem JnC.at {fn : FuncId} {hs : List Hk} {es : List Ed} (h : JnC fn hs es) {w : World} {A : Option Addr} (c : Nat) (hE : HksIn 0 w A hs) : Calls Try.prog fn #[.slice A hs.length c] w (JnEnd w es) := h w A c hE
theorem WhC.at {fn : FuncId} {hs : List Hk} {a : List Ln} {r : List Ed} {q : Int} (h : WhC fn hs a r q) {w : World} {A B : Option Addr} (c c' : Nat) (hE : HksIn 0 w A hs) (hL : LinesIn w B a) (hc : a.length ≤ c') : Calls Try.prog fn #[.slice A hs.length c, .slice B a.length c'] w (RnEnd w r q) := h w A B c c' hE hL hc
theorem c_build {es : List Ed} (x : Int) (hok : EdsOk es) : BdC 10 es x (build es x).1 (build es x).2 := fun w A c hE => build_any A c 0 es x w hE hok
theorem c_hcheck {hs : List Hk} (hok : HksOk hs) : CkC 13 hs (hck hs) := fun w A c hH => hcheck_any A c 0 hs w hH hok
theorem c_rhcheck {hs : List Hk} (hok : HksOk hs) : CkC 14 hs (hck hs) := fun w A c hH => rhcheck_any A c 0 hs w hH hok
theorem c_join {hs : List Hk} (hok : HksOk hs) (hj : (join hs).length ≤ 2000000) (hll : ∀ h ∈ hs, ∀ e ∈ h.es, e.2.length ≤ 1000000) : JnC 16 hs (join hs) := fun w A c hH => join_any A c 0 hs w hH hok hj hll
theorem c_rjoin {hs : List Hk} (hok : HksOk hs) (hj : (join hs).length ≤ 2000000) : JnC 17 hs (join hs) := fun w A c hH => rjoin_any A c 0 hs w hH hok hj
theorem c_whole {hs : List Hk} {a : List Ln} (hok : HksOk hs) (ha : a.length ≤ maxLen) : WhC 20 hs a (whl hs a).1 (whl hs a).2 := fun w A B c c' hH hL hc => whole_any A B c c' 0 hs a w hH hok hL hc ha
/-- A script of few lines: what its hunks are. -/
structure Fw (es : List Ed) (c : Nat) (hs : List Hk) : Prop where
  e : hs = bld c (norm es)
  cl : ∀ x ∈ hs, Cl c x
  ok : HksOk hs
  jl : (join hs).length ≤ 2000000
  ll : ∀ h ∈ hs, ∀ e ∈ h.es, e.2.length ≤ 1000000
  jok : EdsOk (join hs)
  chg : chg (join hs) = chg es
  len : hs.length ≤ 120
theorem fw_of {es : List Ed} {c : Nat} (hk : ck es = 0) (hl : es.length ≤ 120) (ht : tl es ≤ 120) : Fw es c (bld c (norm es)) := by
  have h3 := (ck_ok hk).2.2
  obtain ⟨hn1, hn2, hn3, hn4⟩ := norm_ok hk
  have hnf := nf_norm h3
  have hcl := bld_cl (c := c) hnf
  have htj := bld_tl (c := c) (norm es)
  have hjl := join_len_tl (bld c (norm es)) (fun h hm => (hcl h hm).nf)
  have hm := bld_many (c := c) (norm es)
  have h5 := full_len hnf
  have hte : ∀ h ∈ bld c (norm es), ∀ e ∈ h.es, e.2.length ≤ 120 := fun h hm e he => by
    have := tl_mem hm; have := tl_each he; omega
  refine ⟨rfl, hcl, ⟨by unfold maxLen; omega, fun h hm => ⟨?_, fun e he => by have := hte h hm e he; unfold maxLen; omega⟩⟩, by omega, fun h hm e he => by have := hte h hm e he; omega, ⟨by unfold maxLen; omega, fun e he => ?_⟩, ?_, by omega⟩
  · have := full_len (hcl h hm).nf; have := tl_mem hm; unfold maxLen; omega
  · have := tl_each he; unfold maxLen; omega
  · rw [chg_small (by omega), chg_small (by omega), bld_chg, norm_chg hk]
theorem build_ok {es : List Ed} {c : Nat} (hk : ck es = 0) (hc : c ≤ 20) : build es c = (bld c (norm es), 0) := by
  unfold build
  rw [if_pos hk, if_neg (by omega), Int.toNat_natCast]
theorem build_bad {es : List Ed} {c : Int} (hk : ck es ≠ 0) : build es c = ([], ck es) := by
  unfold build
  rw [if_neg hk]
theorem u8_rem {x : Nat} (hx : x < 256) : Int.tmod (x : Int) 21 = ((x % 21 : Nat) : Int) := by
  rw [Int.tmod_eq_emod_of_nonneg (by omega)]; omega
end Go.Proofs.Ytimalohdchhjgaa.H
