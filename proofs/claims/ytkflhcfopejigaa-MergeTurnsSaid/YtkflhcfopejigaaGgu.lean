/-
  The contracts of merge's Marked and Lines and the reference's, one form each; what must be whatever is asked of it; a text's first forty lines.
  The contracts of layer 14 as its laws take them, one form each; what must be whatever is asked of it.
  What the second form's bound on the bulk of the arguments gives: bounds on lengths.
  Arguments that are bytes or lines, opened: their values, what their cells hold, and a bound on them by their bulk.
  An argument that is lines, with what room it has (as ArgLnZ, with less under it).
  A label read out of an argument; small facts for arguments of structs.
  An argument that is items, opened: its value, and what its cells hold.
  An argument that is a slice of integers, opened: its value, and what its cells hold.
  How long an argument's slices can be, by the reach of the form.
  An argument that is a slice of integers, opened: with its capacity, and each number's bounds.
  An argument that is a slice of pairs, opened: with its capacity, and each number's bounds.
-/
import Derived.Test.YtkflhcfopejigaaGgl
import Derived.Test.YtkflhcfopejigaaGgn
import Derived.Test.YtkflhcfopejigaaGgr
import Derived.Test.YtkflhcfopejigaaGgt
import Derived.Test.YtkflhcfopejigaaGgb
import Derived.Test.YtkflhcfopejigaaRows
import Derived.Lib.Strings
import Derived.Test.YtkflhcfopejigaaGga
import Derived.Deep.SlicePairs
import Derived.Test.YtkflhcfopejigaaGgi
import Derived.SizedLaws
import Derived.Lib.SmallJoins
import Derived.Deep.Slices
import Derived.Deep.Strs
import Derived.Test.YtkflhcfopejigaaGgc
namespace Go.Proofs.Ytkflhcfopejigaa.Mg
set_option linter.unusedVariables false
set_option linter.unusedSimpArgs false
open Go.RowKit
open T
open V (drawn_below)
open I (alloc1 own_at own_below)
open Mt (Pr fnd Rt right right_iff)
open N (PrIn PrIn.below pr_own)
open Ck

def LrEnd (w : World) (t : List Ln) (z : Int) (e : Ending) (w' : World) : Prop := ∃ C cc, e = .returned (.tuple #[.slice C t.length cc, .int .i64 z]) ∧ LinesIn w' C t ∧ Below w.heap.size w w'
def mkd (l : List Pc) (o a b : List Ln) : List Ln := if fits l o.length a.length b.length = true then whole l o a b else []
def mke (l : List Pc) (o a b : List Ln) : Int := if fits l o.length a.length b.length = true then 0 else 3
def lns (l : List Pc) (o a b : List Ln) : List Ln := if fits l o.length a.length b.length = true then if clean l = true then whole l o a b else [] else []
def lne (l : List Pc) (o a b : List Ln) : Int := if fits l o.length a.length b.length = true then if clean l = true then 0 else 10 else 3
theorem plines_le (o a b : List Ln) (x : Pc) : (plines o a b x).length ≤ o.length + a.length + b.length + 4 := by
  have h1 : (cutl a x.ck.a x.ck.an).length ≤ a.length := by unfold cutl; rw [List.length_take, List.length_drop]; omega
  have h2 : (cutl o x.ck.o x.ck.on).length ≤ o.length := by unfold cutl; rw [List.length_take, List.length_drop]; omega
  have h3 : (cutl b x.ck.b x.ck.bn).length ≤ b.length := by unfold cutl; rw [List.length_take, List.length_drop]; omega
  unfold plines
  split
  · omega
  · split
    · simp only [List.length_cons, List.length_append, List.length_nil]; omega
    · omega
theorem flat_bound (o a b : List Ln) : ∀ l : List Pc, (l.flatMap (plines o a b)).length ≤ l.length * (o.length + a.length + b.length + 4)
  | [] => Nat.zero_le _
  | x :: r => by
    rw [List.flatMap_cons, List.length_append, List.length_cons, Nat.succ_mul]
    have := plines_le o a b x
    have := flat_bound o a b r
    omega
/-- The three texts and the pieces are small. -/
structure Small (l : List Pc) (o a b : List Ln) : Prop where
  l : l.length ≤ 4000
  o : o.length ≤ 60
  a : a.length ≤ 60
  b : b.length ≤ 60
theorem Small.flat {l : List Pc} {o a b : List Ln} (h : Small l o a b) : (l.flatMap (plines o a b)).length ≤ 900000 := by
  refine Nat.le_trans (flat_bound o a b l) (Nat.le_trans (Nat.mul_le_mul h.l (show o.length + a.length + b.length + 4 ≤ 184 from by have := h.o; have := h.a; have := h.b; omega)) (by decide))
theorem fits_in3 {l : List Pc} {o a b : List Ln} (h : fits l o.length a.length b.length = true) : ∀ x ∈ l, In3 x.ck o a b := fun x hx => by
  unfold fits at h
  rw [Bool.and_eq_true] at h
  have := (right_tiles h.2).1 x hx
  exact ⟨this.1, this.2.1, this.2.2⟩
section
variable {PA O A B : Option Addr} {cp co ca cb : Nat} {l : List Pc} {o a b : List Ln}
set_option maxRecDepth 100000 in
set_option maxHeartbeats 2000000 in
theorem marked_any (w : World) (hP : PcIn w PA l) (ho : Tx w O co o) (ha : Tx w A ca a) (hb : Tx w B cb b) (hs : Small l o a b) :
    Calls Try.prog 18 #[.slice PA l.length cp, .slice O o.length co, .slice A a.length ca, .slice B b.length cb] w (LrEnd w (mkd l o a b) (mke l o a b)) := by
  have l1 := hs.o
  have l2 := hs.a
  have l3 := hs.b
  have HR := Lib.hid (right_any PA cp l o.length a.length b.length w hP (by have := hs.l; omega) ⟨by omega, by omega⟩ ⟨by omega, by omega⟩ ⟨by omega, by omega⟩)
  by_cases hf : fits l o.length a.length b.length = true
  · have e1 : mkd l o a b = whole l o a b := if_pos hf
    have e2 : mke l o a b = 0 := if_pos hf
    rw [hf] at HR
    rw [e1, e2]
    have HW := Lib.hid (fun (W : World) (h : Below w.heap.size w W) => whole_any (cp := cp) W (hP.below h) (ho.below h) (ha.below h) (hb.below h) (fits_in3 hf) (by omega) (by omega) (by omega) (by have := hs.l; omega) hs.flat)
    generalize whole l o a b = wh at *
    obtain ⟨n0, hn0⟩ : ∃ n, n = l.length := ⟨_, rfl⟩
    obtain ⟨n1, hn1⟩ : ∃ n, n = o.length := ⟨_, rfl⟩
    obtain ⟨n2, hn2⟩ : ∃ n, n = a.length := ⟨_, rfl⟩
    obtain ⟨n3, hn3⟩ : ∃ n, n = b.length := ⟨_, rfl⟩
    rw [← hn0, ← hn1, ← hn2, ← hn3] at HR HW ⊢
    clear hP ho ha hb hs l1 l2 l3 hf e1 e2 hn0 hn1 hn2 hn3
    go_enter Try.func18, Try.ntmps18
    go_wp2_with fail
    with_reducible refine HR.out.mono ?_
    rintro e w1 ⟨rfl, hb1⟩
    have HB1 := Lib.hid hb1
    have HC := Lib.hid (HW.out w1 hb1)
    clear HW HR hb1
    go_wp2_with fail
    with_reducible refine HC.out.mono ?_
    rintro e w2 ⟨C, cc, rfl, hL, hb2⟩
    have HL := Lib.hid hL
    have HB2 := Lib.hid (HB1.out.trans (hb2.mono HB1.out.size))
    clear hL hb2
    go_wp2_with fail
    refine bodyPost_ret (v := .tuple #[.slice C wh.length cc, .int .i64 0]) (by simp [results, Try.results18, go_sem]) rfl ⟨C, cc, rfl, HL.out, HB2.out⟩
  · have e1 : mkd l o a b = [] := if_neg hf
    have e2 : mke l o a b = 3 := if_neg hf
    rw [eq_false_of_ne_true hf] at HR
    rw [e1, e2]
    clear hP ho ha hb hs l1 l2 l3 hf e1 e2
    go_enter Try.func18, Try.ntmps18
    go_wp2_with fail
    with_reducible refine HR.out.mono ?_
    rintro e w1 ⟨rfl, hb1⟩
    have HB1 := Lib.hid hb1
    clear hb1 HR
    go_wp2_with fail
    refine bodyPost_ret (v := .tuple #[.slice none 0 0, .int .i64 3]) (by simp [results, Try.results18, go_sem]) rfl ⟨none, 0, rfl, fun h => absurd h (by simp), HB1.out⟩
set_option maxRecDepth 100000 in
set_option maxHeartbeats 2000000 in
theorem rmarked_any (w : World) (hP : PcIn w PA l) (ho : Tx w O co o) (ha : Tx w A ca a) (hb : Tx w B cb b) (hs : Small l o a b) :
    Calls Try.prog 19 #[.slice PA l.length cp, .slice O o.length co, .slice A a.length ca, .slice B b.length cb] w (LrEnd w (mkd l o a b) (mke l o a b)) := by
  have l1 := hs.o
  have l2 := hs.a
  have l3 := hs.b
  by_cases hf : fits l o.length a.length b.length = true
  · have e1 : mkd l o a b = whole l o a b := if_pos hf
    have e2 : mke l o a b = 0 := if_pos hf
    rw [e1, e2]
    exact rmarked_good w hP ho ha hb (fits_in3 hf) (by omega) (by omega) (by omega) (by have := hs.l; omega) hs.flat hf
  · have HR := Lib.hid (rfits_any PA cp l O A B o.length a.length b.length co ca cb w hP (by have := hs.l; omega) (by unfold maxLen; omega) (by unfold maxLen; omega) (by unfold maxLen; omega))
    have e1 : mkd l o a b = [] := if_neg hf
    have e2 : mke l o a b = 3 := if_neg hf
    rw [eq_false_of_ne_true hf] at HR
    rw [e1, e2]
    clear hP ho ha hb hs l1 l2 l3 hf e1 e2
    go_enter Try.func19, Try.ntmps19
    go_wp2_with fail
    with_reducible refine HR.out.mono ?_
    rintro e w1 ⟨rfl, hb1⟩
    have HB1 := Lib.hid hb1
    clear hb1 HR
    go_wp2_with fail
    refine bodyPost_ret (v := .tuple #[.slice none 0 0, .int .i64 3]) (by simp [results, Try.results19, go_sem]) rfl ⟨none, 0, rfl, fun h => absurd h (by simp), HB1.out⟩
set_option maxRecDepth 100000 in
set_option maxHeartbeats 2000000 in
theorem lines2_any (w : World) (hP : PcIn w PA l) (ho : Tx w O co o) (ha : Tx w A ca a) (hb : Tx w B cb b) (hs : Small l o a b) :
    Calls Try.prog 16 #[.slice PA l.length cp, .slice O o.length co, .slice A a.length ca, .slice B b.length cb] w (LrEnd w (lns l o a b) (lne l o a b)) := by
  have l1 := hs.o
  have l2 := hs.a
  have l3 := hs.b
  have HR := Lib.hid (right_any PA cp l o.length a.length b.length w hP (by have := hs.l; omega) ⟨by omega, by omega⟩ ⟨by omega, by omega⟩ ⟨by omega, by omega⟩)
  by_cases hf : fits l o.length a.length b.length = true
  · have e1 : lns l o a b = if clean l = true then whole l o a b else [] := if_pos hf
    have e2 : lne l o a b = if clean l = true then 0 else 10 := if_pos hf
    rw [hf] at HR
    generalize lns l o a b = rl at *
    generalize lne l o a b = re at *
    have HW := Lib.hid (fun (W : World) (h : Below w.heap.size w W) => whole_any (cp := cp) W (hP.below h) (ho.below h) (ha.below h) (hb.below h) (fits_in3 hf) (by omega) (by omega) (by omega) (by have := hs.l; omega) hs.flat)
    have HCL := Lib.hid (fun (W : World) (h : Below w.heap.size w W) => clean_any PA cp l W (hP.below h) (by have := hs.l; unfold maxLen; omega))
    generalize whole l o a b = wh at *
    generalize clean l = cl at *
    have HE1 := Lib.hid e1
    have HE2 := Lib.hid e2
    obtain ⟨n0, hn0⟩ : ∃ n, n = l.length := ⟨_, rfl⟩
    obtain ⟨n1, hn1⟩ : ∃ n, n = o.length := ⟨_, rfl⟩
    obtain ⟨n2, hn2⟩ : ∃ n, n = a.length := ⟨_, rfl⟩
    obtain ⟨n3, hn3⟩ : ∃ n, n = b.length := ⟨_, rfl⟩
    rw [← hn0, ← hn1, ← hn2, ← hn3] at HR HW ⊢
    rw [← hn0] at HCL
    clear hP ho ha hb hs l1 l2 l3 hf e1 e2 hn0 hn1 hn2 hn3
    go_enter Try.func16, Try.ntmps16
    go_wp2_with fail
    with_reducible refine HR.out.mono ?_
    rintro e w1 ⟨rfl, hb1⟩
    have HB1 := Lib.hid hb1
    have HC := Lib.hid (HCL.out w1 hb1)
    clear HR hb1 HCL
    go_wp2_with fail
    with_reducible refine HC.out.mono ?_
    rintro e w2 ⟨rfl, hb2⟩
    have HB2 := Lib.hid (HB1.out.trans (hb2.mono HB1.out.size))
    have HD := Lib.hid (HW.out w2 HB2.out)
    clear HW HC hb2 HB1
    cases cl with
    | false =>
      clear HD
      obtain rfl : rl = [] := by rw [HE1.out]; rfl
      obtain rfl : re = 10 := by rw [HE2.out]; rfl
      go_wp2_with fail
      refine bodyPost_ret (v := .tuple #[.slice none 0 0, .int .i64 10]) (by simp [results, Try.results16, go_sem]) rfl ⟨none, 0, rfl, fun h => absurd h (by simp), HB2.out⟩
    | true =>
      have hr1 : rl = wh := by rw [HE1.out]; rfl
      have hr2 : re = 0 := by rw [HE2.out]; rfl
      have HR1 := Lib.hid hr1
      have HR2 := Lib.hid hr2
      clear hr1 hr2
      go_wp2_with fail
      with_reducible refine HD.out.mono ?_
      rintro e w3 ⟨C, cc, rfl, hL, hb3⟩
      have HL := Lib.hid hL
      have HB3 := Lib.hid (HB2.out.trans (hb3.mono HB2.out.size))
      clear hL hb3
      go_wp2_with fail
      refine bodyPost_ret (v := .tuple #[.slice C wh.length cc, .int .i64 0]) (by simp [results, Try.results16, go_sem]) rfl (by rw [HR1.out, HR2.out]; exact ⟨C, cc, rfl, HL.out, HB3.out⟩)
  · have e1 : lns l o a b = [] := if_neg hf
    have e2 : lne l o a b = 3 := if_neg hf
    rw [eq_false_of_ne_true hf] at HR
    rw [e1, e2]
    clear hP ho ha hb hs l1 l2 l3 hf e1 e2
    go_enter Try.func16, Try.ntmps16
    go_wp2_with fail
    with_reducible refine HR.out.mono ?_
    rintro e w1 ⟨rfl, hb1⟩
    have HB1 := Lib.hid hb1
    clear hb1 HR
    go_wp2_with fail
    refine bodyPost_ret (v := .tuple #[.slice none 0 0, .int .i64 3]) (by simp [results, Try.results16, go_sem]) rfl ⟨none, 0, rfl, fun h => absurd h (by simp), HB1.out⟩
set_option maxRecDepth 100000 in
set_option maxHeartbeats 2000000 in
theorem rlines2_any (w : World) (hP : PcIn w PA l) (ho : Tx w O co o) (ha : Tx w A ca a) (hb : Tx w B cb b) (hs : Small l o a b) :
    Calls Try.prog 17 #[.slice PA l.length cp, .slice O o.length co, .slice A a.length ca, .slice B b.length cb] w (LrEnd w (lns l o a b) (lne l o a b)) := by
  have l1 := hs.o
  have l2 := hs.a
  have l3 := hs.b
  have HR := Lib.hid (rfits_any PA cp l O A B o.length a.length b.length co ca cb w hP (by have := hs.l; omega) (by unfold maxLen; omega) (by unfold maxLen; omega) (by unfold maxLen; omega))
  by_cases hf : fits l o.length a.length b.length = true
  · have e1 : lns l o a b = if clean l = true then mkd l o a b else [] := by rw [mkd, if_pos hf]; exact if_pos hf
    have e2 : lne l o a b = if clean l = true then mke l o a b else 10 := by rw [mke, if_pos hf]; exact if_pos hf
    rw [hf] at HR
    generalize lns l o a b = rl at *
    generalize lne l o a b = re at *
    have HW := Lib.hid (fun (W : World) (h : Below w.heap.size w W) => rmarked_any (cp := cp) W (hP.below h) (ho.below h) (ha.below h) (hb.below h) hs)
    have HCL := Lib.hid (fun (W : World) (h : Below w.heap.size w W) => rclean_any PA cp l W (hP.below h) (by have := hs.l; omega))
    generalize mkd l o a b = wh at *
    generalize mke l o a b = we at *
    generalize clean l = cl at *
    have HE1 := Lib.hid e1
    have HE2 := Lib.hid e2
    obtain ⟨n0, hn0⟩ : ∃ n, n = l.length := ⟨_, rfl⟩
    obtain ⟨n1, hn1⟩ : ∃ n, n = o.length := ⟨_, rfl⟩
    obtain ⟨n2, hn2⟩ : ∃ n, n = a.length := ⟨_, rfl⟩
    obtain ⟨n3, hn3⟩ : ∃ n, n = b.length := ⟨_, rfl⟩
    rw [← hn0, ← hn1, ← hn2, ← hn3] at HR HW ⊢
    rw [← hn0] at HCL
    clear hP ho ha hb hs l1 l2 l3 hf e1 e2 hn0 hn1 hn2 hn3
    go_enter Try.func17, Try.ntmps17
    go_wp2_with fail
    with_reducible refine HR.out.mono ?_
    rintro e w1 ⟨rfl, hb1⟩
    have HB1 := Lib.hid hb1
    have HC := Lib.hid (HCL.out w1 hb1)
    clear HR hb1 HCL
    go_wp2_with fail
    with_reducible refine HC.out.mono ?_
    rintro e w2 ⟨rfl, hb2⟩
    have HB2 := Lib.hid (HB1.out.trans (hb2.mono HB1.out.size))
    have HD := Lib.hid (HW.out w2 HB2.out)
    clear HW HC hb2 HB1
    cases cl with
    | false =>
      clear HD
      obtain rfl : rl = [] := by rw [HE1.out]; rfl
      obtain rfl : re = 10 := by rw [HE2.out]; rfl
      go_wp2_with fail
      refine bodyPost_ret (v := .tuple #[.slice none 0 0, .int .i64 10]) (by simp [results, Try.results17, go_sem]) rfl ⟨none, 0, rfl, fun h => absurd h (by simp), HB2.out⟩
    | true =>
      have hr1 : rl = wh := by rw [HE1.out]; rfl
      have hr2 : re = we := by rw [HE2.out]; rfl
      have HR1 := Lib.hid hr1
      have HR2 := Lib.hid hr2
      clear hr1 hr2
      go_wp2_with fail
      with_reducible refine HD.out.mono ?_
      rintro e w3 ⟨C, cc, rfl, hL, hb3⟩
      have HL := Lib.hid hL
      have HB3 := Lib.hid (HB2.out.trans (hb3.mono HB2.out.size))
      clear hL hb3
      go_wp2_with fail
      refine bodyPost_ret (v := .tuple #[.slice C wh.length cc, .int .i64 we]) (by simp [results, Try.results17, go_sem]) rfl (by rw [HR1.out, HR2.out]; exact ⟨C, cc, rfl, HL.out, HB3.out⟩)
  · have e1 : lns l o a b = [] := if_neg hf
    have e2 : lne l o a b = 3 := if_neg hf
    rw [eq_false_of_ne_true hf] at HR
    rw [e1, e2]
    clear hP ho ha hb hs l1 l2 l3 hf e1 e2
    go_enter Try.func17, Try.ntmps17
    go_wp2_with fail
    with_reducible refine HR.out.mono ?_
    rintro e w1 ⟨rfl, hb1⟩
    have HB1 := Lib.hid hb1
    clear hb1 HR
    go_wp2_with fail
    refine bodyPost_ret (v := .tuple #[.slice none 0 0, .int .i64 3]) (by simp [results, Try.results17, go_sem]) rfl ⟨none, 0, rfl, fun h => absurd h (by simp), HB1.out⟩
end
/-- The first forty lines. -/
theorem few_any (A : Option Addr) (a : List Ln) (c : Nat) (w : World) (ha : a.length ≤ maxLen) (hc : a.length ≤ c) :
    Calls Try.prog 9 #[.slice A a.length c] w fun e w' => e = .returned (.slice A (a.take 40).length c) ∧ w' = w := by
  unfold maxLen at ha
  obtain ⟨n, hn⟩ : ∃ n, n = a.length := ⟨_, rfl⟩
  obtain ⟨m, hm⟩ : ∃ m, m = (a.take 40).length := ⟨_, rfl⟩
  rw [List.length_take, ← hn] at hm
  have hm' : min (n : Int) 40 = (m : Int) := by omega
  have hmn : m ≤ n := by omega
  have HM : Hid ((a.take 40).length = m) := Lib.hid (by rw [List.length_take, ← hn, hm])
  rw [← hn] at ha hc ⊢
  rw [HM.out]
  clear hn hm
  go_enter Try.func9, Try.ntmps9
  go_wp2_with fail
  go_ret
  exact ⟨rfl, rfl⟩
theorem Tx.take {w : World} {B : Option Addr} {c : Nat} {l : List Ln} (h : Tx w B c l) : Tx w B c (l.take 40) := ⟨ln_take h.i 40, by have := h.r; rw [List.length_take]; omega, h.z, by have := h.s; rw [List.length_take]; omega⟩
end Go.Proofs.Ytkflhcfopejigaa.Mg

namespace Go.Proofs.Ytkflhcfopejigaa.Mg
set_option linter.unusedVariables false
set_option linter.unusedSimpArgs false
open Go.RowKit
open T
open V (drawn_below)
open I (alloc1 own_at own_below)
open Mt (Pr fnd Rt right right_iff)
open N (PrIn PrIn.below pr_own)
open Ck

def PsEnd (w : World) (l : List Pc) (z : Int) (e : Ending) (w' : World) : Prop := ∃ C cc, e = .returned (.tuple #[.slice C l.length cc, .int .i64 z]) ∧ PcIn w' C l ∧ Below w.heap.size w w'
theorem PsEnd.of {w : World} {l : List Pc} {z : Int} {e : Ending} {w' : World} (h : PoEnd w l z e w') : PsEnd w l z e w' := by
  obtain ⟨C, cc, h1, h2, h3⟩ := h
  exact ⟨C, cc, h1, pc_own h2, h3⟩
def OfM (fn : FuncId) (o a b : List Ln) (p q : List Pr) (l : List Pc) (z : Int) : Prop := ∀ (w : World) (P Q O A B : Option Addr) (cp cq co ca cb : Nat), Tx w O co o → Tx w A ca a → Tx w B cb b → PrIn w P p → PrIn w Q q → Calls Try.prog fn #[.slice O o.length co, .slice A a.length ca, .slice B b.length cb, .slice P p.length cp, .slice Q q.length cq] w (PsEnd w l z)
theorem OfM.at {fn : FuncId} {o a b : List Ln} {p q : List Pr} {l : List Pc} {z : Int} (h : OfM fn o a b p q l z) {w : World} {P Q O A B : Option Addr} (cp cq : Nat) {co ca cb : Nat} (hO : Tx w O co o) (hA : Tx w A ca a) (hB : Tx w B cb b) (hP : PrIn w P p) (hQ : PrIn w Q q) : Calls Try.prog fn #[.slice O o.length co, .slice A a.length ca, .slice B b.length cb, .slice P p.length cp, .slice Q q.length cq] w (PsEnd w l z) := h w P Q O A B cp cq co ca cb hO hA hB hP hQ
theorem c_of (o a b : List Ln) (p q : List Pr) (hp : p.length ≤ 1000) (hq : q.length ≤ 1000) : OfM 10 o a b p q (pieces o a b p q) (perr o a b p q) := fun w P Q O A B cp cq co ca cb hO hA hB hP hQ => (of_any w hO hA hB hP hQ hp hq).mono fun _ _ h => .of h
theorem c_rof (o a b : List Ln) (p q : List Pr) (hp : p.length ≤ 1000) (hq : q.length ≤ 1000) : OfM 11 o a b p q (pieces o a b p q) (perr o a b p q) := fun w P Q O A B cp cq co ca cb hO hA hB hP hQ => (rof_any w hO hA hB hP hQ hp hq).mono fun _ _ h => .of h
def LmC (fn : FuncId) (l : List Pc) (o a b t : List Ln) (z : Int) : Prop := ∀ (w : World) (P O A B : Option Addr) (cp co ca cb : Nat), PcIn w P l → Tx w O co o → Tx w A ca a → Tx w B cb b → Calls Try.prog fn #[.slice P l.length cp, .slice O o.length co, .slice A a.length ca, .slice B b.length cb] w (LrEnd w t z)
theorem LmC.at {fn : FuncId} {l : List Pc} {o a b t : List Ln} {z : Int} (h : LmC fn l o a b t z) {w : World} {P O A B : Option Addr} (cp : Nat) {co ca cb : Nat} (hP : PcIn w P l) (hO : Tx w O co o) (hA : Tx w A ca a) (hB : Tx w B cb b) : Calls Try.prog fn #[.slice P l.length cp, .slice O o.length co, .slice A a.length ca, .slice B b.length cb] w (LrEnd w t z) := h w P O A B cp co ca cb hP hO hA hB
theorem c_marked {l : List Pc} {o a b : List Ln} (h : Small l o a b) : LmC 18 l o a b (mkd l o a b) (mke l o a b) := fun w _ _ _ _ _ _ _ _ hP hO hA hB => marked_any w hP hO hA hB h
theorem c_rmarked {l : List Pc} {o a b : List Ln} (h : Small l o a b) : LmC 19 l o a b (mkd l o a b) (mke l o a b) := fun w _ _ _ _ _ _ _ _ hP hO hA hB => rmarked_any w hP hO hA hB h
theorem c_lines {l : List Pc} {o a b : List Ln} (h : Small l o a b) : LmC 16 l o a b (lns l o a b) (lne l o a b) := fun w _ _ _ _ _ _ _ _ hP hO hA hB => lines2_any w hP hO hA hB h
theorem c_rlines {l : List Pc} {o a b : List Ln} (h : Small l o a b) : LmC 17 l o a b (lns l o a b) (lne l o a b) := fun w _ _ _ _ _ _ _ _ hP hO hA hB => rlines2_any w hP hO hA hB h
def ClM (fn : FuncId) (l : List Pc) (v : Bool) : Prop := ∀ (w : World) (P : Option Addr) (cp : Nat), PcIn w P l → Calls Try.prog fn #[.slice P l.length cp] w (BoEnd w v)
theorem ClM.at {fn : FuncId} {l : List Pc} {v : Bool} (h : ClM fn l v) {w : World} {P : Option Addr} (cp : Nat) (hP : PcIn w P l) : Calls Try.prog fn #[.slice P l.length cp] w (BoEnd w v) := h w P cp hP
theorem c_clean {l : List Pc} (h : l.length ≤ 4000) : ClM 14 l (clean l) := fun w P cp hP => clean_any P cp l w hP (by unfold maxLen; omega)
theorem c_rclean {l : List Pc} (h : l.length ≤ 4000) : ClM 15 l (clean l) := fun w P cp hP => rclean_any P cp l w hP (by omega)
def SmM (l : List Pc) : Prop := ∀ (w : World) (P Q : Option Addr) (cp cq : Nat), PcIn w P l → PcIn w Q l → Calls Try.prog 13 #[.slice P l.length cp, .slice Q l.length cq] w (BoEnd w true)
theorem SmM.at {l : List Pc} (h : SmM l) {w : World} {P Q : Option Addr} (cp cq : Nat) (hP : PcIn w P l) (hQ : PcIn w Q l) : Calls Try.prog 13 #[.slice P l.length cp, .slice Q l.length cq] w (BoEnd w true) := h w P Q cp cq hP hQ
theorem c_psame {l : List Pc} (h : l.length ≤ 4000) : SmM l := fun w P Q cp cq hP hQ => rpsame_any P Q cp cq l w hP hQ (by omega)
def SlM (x y : List Ln) (v : Bool) : Prop := ∀ (w : World) (P Q : Option Addr) (cp cq : Nat), LinesIn w P x → LinesIn w Q y → Calls Try.prog 20 #[.slice P x.length cp, .slice Q y.length cq] w (BoEnd w v)
theorem SlM.at {x y : List Ln} {v : Bool} (h : SlM x y v) {w : World} {P Q : Option Addr} (cp cq : Nat) (hP : LinesIn w P x) (hQ : LinesIn w Q y) : Calls Try.prog 20 #[.slice P x.length cp, .slice Q y.length cq] w (BoEnd w v) := h w P Q cp cq hP hQ
theorem c_lsame {x y : List Ln} (h1 : x.length ≤ maxLen) (h2 : y.length ≤ maxLen) : SlM x y (decide (x = y)) := fun w P Q cp cq hP hQ => rsame_gen P Q cp cq x y w h1 h2 hP hQ
theorem c_lself {x : List Ln} (h1 : x.length ≤ maxLen) : SlM x x true := by
  have h := c_lsame h1 h1
  rw [decide_eq_true rfl] at h
  exact h
def RgM (x : List Ln) (v : Bool) : Prop := ∀ (w : World) (P : Option Addr) (cp : Nat), LinesIn w P x → Calls Try.prog 21 #[.slice P x.length cp] w (BoEnd w v)
theorem RgM.at {x : List Ln} {v : Bool} (h : RgM x v) {w : World} {P : Option Addr} (cp : Nat) (hP : LinesIn w P x) : Calls Try.prog 21 #[.slice P x.length cp] w (BoEnd w v) := h w P cp hP
theorem c_rright {x : List Ln} (h1 : x.length ≤ 4194304) (h2 : ∀ y ∈ x, y.1.length ≤ maxLen) : RgM x (P.right x) := fun w P cp hP => (refRight_anyT P cp x w h1 h2 hP).mono fun e w' h => by
  obtain ⟨h1, rfl⟩ := h
  exact ⟨h1, Below.refl _ _⟩
def PtM (a b : List Ln) (ps : List Pr) : Prop := ∀ (w : World) (A B : Option Addr) (ca cb : Nat), Tx w A ca a → Tx w B cb b → Calls Try.prog 22 #[.slice A a.length ca, .slice B b.length cb] w (MtEnd w ps)
theorem PtM.at {a b : List Ln} {ps : List Pr} (h : PtM a b ps) {w : World} {A B : Option Addr} {ca cb : Nat} (hA : Tx w A ca a) (hB : Tx w B cb b) : Calls Try.prog 22 #[.slice A a.length ca, .slice B b.length cb] w (MtEnd w ps) := h w A B ca cb hA hB
theorem c_pairs {a b : List Ln} (ha : a.length ≤ 60) (hb : b.length ≤ 60) : PtM a b (mt a b) := fun w A B ca cb hA hB => pairs_any A B a b ca cb w hA.i hB.i ha hb hA.r hB.r
def FwM (A : Option Addr) (c n m : Nat) : Prop := ∀ W : World, Calls Try.prog 9 #[.slice A n c] W fun e w' => e = .returned (.slice A m c) ∧ w' = W
theorem FwM.at {A : Option Addr} {c n m : Nat} (h : FwM A c n m) (W : World) : Calls Try.prog 9 #[.slice A n c] W fun e w' => e = .returned (.slice A m c) ∧ w' = W := h W
theorem c_few {A : Option Addr} {a : List Ln} {c : Nat} (ha : a.length ≤ maxLen) (hc : a.length ≤ c) : FwM A c a.length (a.take 40).length := fun W => few_any A a c W ha hc
theorem FwM.bel {A : Option Addr} {c n m : Nat} (h : FwM A c n m) (W : World) : Calls Try.prog 9 #[.slice A n c] W fun e w' => e = .returned (.slice A m c) ∧ Below W.heap.size W w' := (h W).mono fun e w' h => ⟨h.1, by rw [h.2]; exact Below.refl _ _⟩
theorem len40 {α : Type} (p : List α) : (p.take 40).length ≤ 40 := by rw [List.length_take]; omega
theorem pieces_le (o a b : List Ln) (p q : List Pr) : (pieces o a b p q).length ≤ 1200 := by
  unfold pieces
  split
  · rw [List.length_map]; exact chunks_len _ _ _ _ _
  · simp
/-- What is known of the match of two texts with a base, by the shortest way. -/
theorem mt_can {o a b : List Ln} (ho : o.length ≤ 60) (ha : a.length ≤ 60) (hb : b.length ≤ 60) : can (mt o a) (mt o b) o.length a.length b.length :=
  ⟨⟨⟨by omega, by omega⟩, ⟨by omega, by omega⟩, ⟨by omega, by omega⟩⟩, right_iff.2 (mt_right o a), right_iff.2 (mt_right o b)⟩
theorem mt_err {o a b : List Ln} (ho : o.length ≤ 60) (ha : a.length ≤ 60) (hb : b.length ≤ 60) : perr o a b (mt o a) (mt o b) = 0 := by
  unfold perr
  rw [if_pos (mt_can ho ha hb), if_pos ⟨(mt_like o a).like, (mt_like o b).like⟩]
theorem mt_fits {o a b : List Ln} (ho : o.length ≤ 60) (ha : a.length ≤ 60) (hb : b.length ≤ 60) : fits (pieces o a b (mt o a) (mt o b)) o.length a.length b.length = true :=
  pieces_fits (mt_can ho ha hb) ⟨(mt_like o a).like, (mt_like o b).like⟩
theorem small_of {o a b : List Ln} {p q : List Pr} (ho : o.length ≤ 60) (ha : a.length ≤ 60) (hb : b.length ≤ 60) : Small (pieces o a b p q) o a b := ⟨Nat.le_trans (pieces_le o a b p q) (by decide), ho, ha, hb⟩
theorem lns_clean {l : List Pc} {o a b : List Ln} (hf : fits l o.length a.length b.length = true) (hc : clean l = true) : lns l o a b = whole l o a b ∧ lne l o a b = 0 := by
  unfold lns lne; rw [if_pos hf, if_pos hf, if_pos hc, if_pos hc]; exact ⟨rfl, rfl⟩
/-- One of the others is the base: the merge is the other one. -/
theorem one_lns {o a : List Ln} (ho : o.length ≤ 60) (ha : a.length ≤ 60) (hr : P.right a = true) : lns (pieces o a o (mt o a) (mt o o)) o a o = a ∧ lne (pieces o a o (mt o a) (mt o o)) o a o = 0 ∧ lns (pieces o o a (mt o o) (mt o a)) o o a = a ∧ lne (pieces o o a (mt o o) (mt o a)) o o a = 0 := by
  have hm := mt_idp o
  have hc := mt_can ho ha ho
  have hq := mt_like o o
  rw [hm] at hc hq
  have h1 := merge_one hc (mt_like o a) hq
  rw [← hm] at h1
  have e1 := lns_clean (mt_fits ho ha ho) h1.2
  have hw : whole (pieces o a o (mt o a) (mt o o)) o a o = a := by rw [whole, h1.1, bared_right hr]
  have ht := whole_turn (mt_like o a) (mt_like o o) h1.2
  have hcl : clean (pieces o o a (mt o o) (mt o a)) = true := by rw [(pieces_turn o a o (mt o a) (mt o o)).1, clean_turn]; exact h1.2
  have e2 := lns_clean (mt_fits ho ho ha) hcl
  exact ⟨e1.1.trans hw, e1.2, e2.1.trans (ht.trans hw), e2.2⟩
theorem both_lns {o a : List Ln} (ho : o.length ≤ 60) (ha : a.length ≤ 60) (hr : P.right a = true) : lns (pieces o a a (mt o a) (mt o a)) o a a = a ∧ lne (pieces o a a (mt o a) (mt o a)) o a a = 0 := by
  have h1 := merge_both (mt_can ho ha ha) (mt_like o a)
  have e1 := lns_clean (mt_fits ho ha ha) h1.2
  have hw : whole (pieces o a a (mt o a) (mt o a)) o a a = a := by rw [whole, h1.1, bared_right hr]
  exact ⟨e1.1.trans hw, e1.2⟩
theorem pr_none (w : World) : PrIn w none [] := fun h => absurd h (by simp)
theorem tx_block {w : World} {g : Nat} {s : ByteArray} {b : Bool} (h : w.heap[g]? = some (.cells #[.string s, .bool b] 51 (0, 0))) : Tx w (some ⟨g, 0, none⟩) 1 [(s.data.toList, b)] :=
  ⟨fun _ => ⟨g, 0, rfl, L.blk_lt h, fun j hj => by
    simp only [List.length_cons, List.length_nil, Nat.zero_add] at hj
    obtain rfl : j = 0 := by omega
    exact ⟨L.blk_cell h 0, L.blk_cell h 1⟩⟩, Nat.le_refl _, fun e => (by cases e), by unfold maxLen; simp⟩
def lX : Ln := ([120], false)
def lY : Ln := ([121], false)
def lZ : Ln := ([122], false)
theorem live_one : pieces [lX] [lY] [lX] [] [(0, 0)] = [⟨2, ⟨false, 0, 1, 0, 1, 0, 1⟩⟩] ∧ perr [lX] [lY] [lX] [] [(0, 0)] = 0 := ⟨by rfl, by rfl⟩
theorem live_two : pieces [lX] [lY] [lZ] [] [] = [⟨4, ⟨false, 0, 1, 0, 1, 0, 1⟩⟩] ∧ perr [lX] [lY] [lZ] [] [] = 0 := ⟨by rfl, by rfl⟩
theorem live_lns : lns [⟨2, ⟨false, 0, 1, 0, 1, 0, 1⟩⟩] [lX] [lY] [lX] = [lY] ∧ lne [⟨2, ⟨false, 0, 1, 0, 1, 0, 1⟩⟩] [lX] [lY] [lX] = 0 := ⟨by rfl, by rfl⟩
set_option maxRecDepth 100000 in
set_option maxHeartbeats 4000000 in
theorem live14 : LvC 12 := fun w => by
  obtain ⟨W1, hW1⟩ : ∃ W : World, W = ((w.alloc (.cells #[.string ⟨#[120]⟩, .bool false] 51)).alloc (.cells #[.string ⟨#[121]⟩, .bool false] 51)).alloc (.cells #[.string ⟨#[122]⟩, .bool false] 51) := ⟨_, rfl⟩
  have h0 : W1.heap[w.heap.size]? = some (.cells #[.string ⟨#[120]⟩, .bool false] 51 (0, 0)) := by
    have := (L.two_blocks w (.cells #[.string ⟨#[120]⟩, .bool false] 51) (.cells #[.string ⟨#[121]⟩, .bool false] 51)).1
    rw [hW1, (alloc1 _ _).block _ (by simp <;> omega)]; exact this
  have h1 : W1.heap[w.heap.size + 1]? = some (.cells #[.string ⟨#[121]⟩, .bool false] 51 (0, 0)) := by
    have := (L.two_blocks w (.cells #[.string ⟨#[120]⟩, .bool false] 51) (.cells #[.string ⟨#[121]⟩, .bool false] 51)).2
    rw [hW1, (alloc1 _ _).block _ (by simp <;> omega)]; exact this
  have h2 : W1.heap[w.heap.size + 1 + 1]? = some (.cells #[.string ⟨#[122]⟩, .bool false] 51 (0, 0)) := by
    have := heap_alloc_new ((w.alloc (.cells #[.string ⟨#[120]⟩, .bool false] 51)).alloc (.cells #[.string ⟨#[121]⟩, .bool false] 51)) (.cells #[.string ⟨#[122]⟩, .bool false] 51)
    rw [show ((w.alloc (.cells #[.string ⟨#[120]⟩, .bool false] 51)).alloc (.cells #[.string ⟨#[121]⟩, .bool false] 51)).heap.size = w.heap.size + 1 + 1 by simp] at this
    rw [hW1]; exact this
  have HB1 := Lib.hid (show Below w.heap.size w W1 by rw [hW1]; exact ((alloc1 _ _).alloc (by simp) _).alloc (by simp; omega) _)
  have TX := Lib.hid (show Tx W1 _ 1 [lX] from tx_block h0)
  have TY := Lib.hid (show Tx W1 _ 1 [lY] from tx_block h1)
  have TZ := Lib.hid (show Tx W1 _ 1 [lZ] from tx_block h2)
  obtain ⟨W2, hW2⟩ : ∃ W : World, W = W1.alloc (.cells #[.int .i64 0, .int .i64 0] 57) := ⟨_, rfl⟩
  have hb2 : Below W1.heap.size W1 W2 := by rw [hW2]; exact alloc1 _ _
  have hx2 : W2.heap[W1.heap.size]? = some (.cells #[.int .i64 0, .int .i64 0] 57 (0, 0)) := by rw [hW2]; exact heap_alloc_new _ _
  have HB2 := Lib.hid (HB1.out.trans (hb2.mono HB1.out.size))
  have HPR : Hid (PrIn W2 (some ⟨W1.heap.size, 0, none⟩) [((0 : Int), (0 : Int))]) := Lib.hid (fun _ => ⟨_, 0, rfl, L.blk_lt hx2, fun j hj => by
    simp only [List.length_cons, List.length_nil, Nat.zero_add] at hj
    obtain rfl : j = 0 := by omega
    exact ⟨L.blk_cell hx2 0, L.blk_cell hx2 1⟩⟩)
  replace TX := Lib.hid (TX.out.below hb2)
  replace TY := Lib.hid (TY.out.below hb2)
  replace TZ := Lib.hid (TZ.out.below hb2)
  have HO1 := Lib.hid ((c_of [lX] [lY] [lX] [] [((0 : Int), (0 : Int))] (by decide) (by decide)).at 0 1 TX.out TY.out TX.out (pr_none _) HPR.out)
  rw [live_one.1, live_one.2] at HO1
  simp only [List.length_cons, List.length_nil, Nat.zero_add] at HO1
  clear h0 h1 h2 hb2 hx2 HPR HB1
  go_enter Try.func12, Try.ntmps12
  go_upto_region 2 with fail
  rw [← hW1]
  clear hW1
  go_wp2_with fail
  rw [← hW2]
  clear hW2
  go_wp2_with fail
  with_reducible refine HO1.out.mono ?_
  rintro e w3 ⟨C1, k1, rfl, hC1, hb3⟩
  have HB3 := Lib.hid (HB2.out.trans (hb3.mono HB2.out.size))
  have HC1 := Lib.hid hC1
  replace TX := Lib.hid (TX.out.below hb3)
  replace TY := Lib.hid (TY.out.below hb3)
  replace TZ := Lib.hid (TZ.out.below hb3)
  clear HO1 hC1 hb3 HB2
  have HO2 := Lib.hid ((c_of [lX] [lY] [lZ] [] [] (by decide) (by decide)).at 0 0 TX.out TY.out TZ.out (pr_none _) (pr_none _))
  rw [live_two.1, live_two.2] at HO2
  simp only [List.length_cons, List.length_nil, Nat.zero_add] at HO2 ⊢
  go_wp2_with fail
  with_reducible refine HO2.out.mono ?_
  rintro e w4 ⟨C2, k2, rfl, hC2, hb4⟩
  have HB4 := Lib.hid (HB3.out.trans (hb4.mono HB3.out.size))
  have HC2 := Lib.hid hC2
  replace HC1 := Lib.hid (HC1.out.below hb4)
  replace TX := Lib.hid (TX.out.below hb4)
  replace TY := Lib.hid (TY.out.below hb4)
  clear HO2 hC2 hb4 HB3 TZ
  have HO3 := Lib.hid ((c_lines (l := [⟨2, ⟨false, 0, 1, 0, 1, 0, 1⟩⟩]) (o := [lX]) (a := [lY]) (b := [lX]) ⟨by decide, by decide, by decide, by decide⟩).at k1 HC1.out TX.out TY.out TX.out)
  rw [live_lns.1, live_lns.2] at HO3
  simp only [List.length_cons, List.length_nil, Nat.zero_add] at HO3 ⊢
  go_wp2_with fail
  with_reducible refine HO3.out.mono ?_
  rintro e w5 ⟨C3, k3, rfl, hC3, hb5⟩
  have HB5 := Lib.hid (HB4.out.trans (hb5.mono HB4.out.size))
  have HC3 := Lib.hid hC3
  replace HC1 := Lib.hid (HC1.out.below hb5)
  replace HC2 := Lib.hid (HC2.out.below hb5)
  clear HO3 hC3 hb5 HB4 TX TY
  have HK1 := Lib.hid ((c_clean (l := [⟨2, ⟨false, 0, 1, 0, 1, 0, 1⟩⟩]) (by decide)).at k1 HC1.out)
  rw [show clean [⟨2, ⟨false, 0, 1, 0, 1, 0, 1⟩⟩] = true by rfl] at HK1
  simp only [List.length_cons, List.length_nil, Nat.zero_add] at HK1 ⊢
  go_wp2_with fail
  with_reducible refine HK1.out.mono ?_
  rintro e w6 ⟨rfl, hb6⟩
  have HB6 := Lib.hid (HB5.out.trans (hb6.mono HB5.out.size))
  replace HC2 := Lib.hid (HC2.out.below hb6)
  replace HC3 := Lib.hid (HC3.out.below hb6)
  clear HK1 hb6 HB5 HC1
  have HK2 := Lib.hid ((c_clean (l := [⟨4, ⟨false, 0, 1, 0, 1, 0, 1⟩⟩]) (by decide)).at k2 HC2.out)
  rw [show clean [⟨4, ⟨false, 0, 1, 0, 1, 0, 1⟩⟩] = false by rfl] at HK2
  simp only [List.length_cons, List.length_nil, Nat.zero_add] at HK2
  go_wp2_with fail
  with_reducible refine HK2.out.mono ?_
  rintro e w7 ⟨rfl, hb7⟩
  have HB7 := Lib.hid (HB6.out.trans (hb7.mono HB6.out.size))
  obtain ⟨bk, off, hAe, hbk, hI⟩ := HC3.out.below hb7 (by decide)
  subst hAe
  have c0 := (hI 0 (by decide)).1
  simp only [Nat.zero_mul, Nat.add_zero, List.getElem_cons_zero] at c0
  rw [show (⟨lY.1.toArray⟩ : ByteArray) = ⟨#[121]⟩ from rfl] at c0
  clear HK2 hb7 HB6 HC2 HC3 hI
  go_wp2_with fail
  go_ret
  exact ⟨rfl, HB7.out⟩
end Go.Proofs.Ytkflhcfopejigaa.Mg

namespace Go.Proofs.Ytkflhcfopejigaa.Bulk

theorem bound {H : Type} {l : List (DataW H)} (hk : Rows.uptoSmall H l = true) : Rows.uptoBulkAll l ≤ 1048576 := of_decide_eq_true hk
theorem string_bulk {H : Type} (b : List UInt8) : Rows.uptoBulk (DataW.lit (H := H) (.string b)) = b.length + 1 := by simp [Rows.uptoBulk]
/-- One text: so many bytes at the most. -/
theorem string_size {H : Type} {s : ByteArray} {r : List (DataW H)} (hk : Rows.uptoSmall H ([.lit (.string s.data.toList)] ++ r) = true) : s.size ≤ 1048576 := by
  have h := bound hk
  simp only [List.cons_append, List.nil_append, Rows.uptoBulkAll, string_bulk] at h
  have := Lib.size_eq s
  omega
/-- A text behind one or two other arguments. -/
theorem string_size2 {H : Type} {a : DataW H} {s : ByteArray} {r : List (DataW H)} (hk : Rows.uptoSmall H ([a, .lit (.string s.data.toList)] ++ r) = true) : s.size ≤ 1048576 := by
  have h := bound hk
  simp only [List.cons_append, List.nil_append, Rows.uptoBulkAll, string_bulk] at h
  have := Lib.size_eq s
  omega
theorem string_size3 {H : Type} {a b : DataW H} {s : ByteArray} {r : List (DataW H)} (hk : Rows.uptoSmall H ([a, b, .lit (.string s.data.toList)] ++ r) = true) : s.size ≤ 1048576 := by
  have h := bound hk
  simp only [List.cons_append, List.nil_append, Rows.uptoBulkAll, string_bulk] at h
  have := Lib.size_eq s
  omega
/-- One or two arguments, whatever they are. -/
theorem one {H : Type} {a : DataW H} {r : List (DataW H)} (hk : Rows.uptoSmall H ([a] ++ r) = true) : Rows.uptoBulk a ≤ 1048576 := by
  have h := bound hk
  simp only [List.cons_append, List.nil_append, Rows.uptoBulkAll] at h
  omega
theorem two {H : Type} {a b : DataW H} {r : List (DataW H)} (hk : Rows.uptoSmall H ([a, b] ++ r) = true) : Rows.uptoBulk a ≤ 1048576 ∧ Rows.uptoBulk b ≤ 1048576 := by
  have h := bound hk
  simp only [List.cons_append, List.nil_append, Rows.uptoBulkAll] at h
  omega
end Go.Proofs.Ytkflhcfopejigaa.Bulk

namespace Go.Proofs.Ytkflhcfopejigaa.R
open Go.ChangeShapes Go.WideShapes Go.ChangeAt Go.RowKit

theorem cellsByte : Try.prog.cellsOf 5 = 1 := by kernel_rfl
theorem cellsStr : Try.prog.cellsOf 9 = 1 := by kernel_rfl
theorem cellsBool : Try.prog.cellsOf 4 = 1 := by kernel_rfl
theorem cellsLine : Try.prog.cellsOf 51 = 2 := by kernel_rfl

theorem bulk_lits {H : Type} (k : IntKind) : ∀ zs : List Int, Rows.uptoBulkAll (lits (H := H) k zs) = zs.length
  | [] => rfl
  | z :: r => by
    have := bulk_lits (H := H) k r
    simp only [lits, List.map_cons, Rows.uptoBulkAll, Rows.uptoBulk, List.length_cons] at this ⊢
    omega
def textOf : Value → List UInt8
  | .string s => s.data.toList
  | _ => []
def bareOf : Value → Bool
  | .bool b => b
  | _ => false
theorem bulk_pairs {H : Type} (D0 D1 : Nat → DataW H) (f : Nat → List UInt8 × Bool) : ∀ is : List Nat, (∀ i ∈ is, D0 i = .lit (.string (f i).1)) → P.bulk (is.map f) ≤ Rows.uptoBulkAll (is.map fun i => .agg [D0 i, D1 i])
  | [], _ => Nat.le_refl _
  | i :: r, h => by
    have ih := bulk_pairs D0 D1 f r (fun j hj => h j (by simp [hj]))
    rw [List.map_cons, List.map_cons, show f i = ((f i).1, (f i).2) from rfl, P.bulk]
    simp only [Rows.uptoBulkAll, Rows.uptoBulk, h i (by simp)]
    omega
set_option maxRecDepth 100000 in
theorem lines_arg {H : Type} {enc : TypeId × Value → H} {W : World} {r : Reach} {b0 base : Nat} {sp : Nat → Bool} {held : Bool} {v : Value} {d : DataW H} {p : List MemPlace}
    (hv : Value.okWide Try.prog W r b0 22 v) (h : DataW.Trod enc Try.prog W base sp held 22 v d p) :
    ∃ (A : Option Addr) (cap : Nat) (xs : List (List UInt8 × Bool)), v = .slice A xs.length cap ∧ P.bulk xs ≤ Rows.uptoBulk d ∧ T.LinesIn W A xs := by
  obtain ⟨a0, len, cap, rfl⟩ := okWide_slice Try.underlying22 hv
  obtain ⟨fuel, hf⟩ := h
  rcases Deep.open_slice_pairs Try.underlying22 Try.underlying51 cellsLine rfl rfl cellsStr cellsBool hf with ⟨hcs, hx⟩ | ⟨a, len', cap', m, n, V0, V1, D0, D1, P0, P1, hcs, _, hl, hm, hmm, hx, hcell⟩
  · simp only [Value.cells, List.cons.injEq, Value.slice.injEq, and_true] at hcs
    obtain ⟨rfl, rfl, rfl⟩ := hcs
    exact ⟨none, 0, [], rfl, Nat.zero_le _, fun h => absurd h (by simp)⟩
  · simp only [Value.cells, List.cons.injEq, Value.slice.injEq, and_true] at hcs
    obtain ⟨rfl, rfl, rfl⟩ := hcs
    have hle : len ≤ m := by rw [hmm]; split <;> omega
    have each : ∀ i, i < len → W.cell? (a.add (i * 2)) = some (.string ⟨(textOf (V0 i)).toArray⟩) ∧ W.cell? (a.add (i * 2 + 1)) = some (.bool (bareOf (V1 i))) ∧ D0 i = .lit (.string (textOf (V0 i))) := by
      intro i hi
      obtain ⟨c0, c1, t0, t1⟩ := hcell i (by omega)
      obtain ⟨s, hs, hd, _⟩ := DataW.trod_string Try.underlying9 t0
      obtain ⟨b, hb, _⟩ := DataW.trod_bool Try.underlying4 t1
      simp only [List.cons.injEq, and_true] at hs hb
      rw [hs] at c0
      rw [hb] at c1
      refine ⟨by rw [c0, hs]; simp [textOf], by rw [c1, hb]; rfl, by rw [(Prod.mk.inj hd).1, hs]; rfl⟩
    have htl : ((List.range len).map fun i => (textOf (V0 i), bareOf (V1 i))).length = len := by simp
    refine ⟨some a, cap, (List.range len).map fun i => (textOf (V0 i), bareOf (V1 i)), by rw [htl], ?_, fun hp => ?_⟩
    · have := bulk_pairs D0 D1 (fun i => (textOf (V0 i), bareOf (V1 i))) (List.range len) (fun i hi => (each i (List.mem_range.1 hi)).2.2)
      rw [(Prod.mk.inj hx).1, Rows.uptoBulk]; omega
    rw [htl] at hp
    obtain ⟨bk, off, spot⟩ := a
    have hspot : spot = none := by simpa [Addr.add] using World.cell?_spot (each 0 hp).1
    subst hspot
    have h0 := (each 0 hp).1
    refine ⟨bk, off, rfl, World.block_lt_of_cell? W _ h0, fun j hj => ?_⟩
    rw [htl] at hj
    have := each j hj
    rw [add_plain, add_plain, ← Nat.add_assoc] at this
    simp only [List.getElem_map, List.getElem_range]
    exact ⟨this.1, this.2.1⟩
end Go.Proofs.Ytkflhcfopejigaa.R

namespace Go.Proofs.Ytkflhcfopejigaa.RZ
open Go.ChangeShapes Go.WideShapes Go.ChangeAt Go.RowKit Go.Deep Go.Joins
section
variable {H : Type} {enc : TypeId × Value → H} {w : World} {base : Nat} {spare : Nat → Bool} {held : Bool}
set_option maxRecDepth 100000 in
theorem lines_readY {fuel : Nat} {cs : List Value} {x : DataW H × List MemPlace} (hf : DataW.trod enc Try.prog w base spare held fuel 22 cs = some x) :
    ∃ (A : Option Addr) (cap : Nat) (xs : List Mg.Ln), cs = [.slice A xs.length cap] ∧ xs.length ≤ cap ∧ cap ≤ maxLen ∧ T.LinesIn w A xs ∧ (∀ y ∈ xs, y.1.length ≤ maxLen) ∧ (A = none → cap = 0) := by
  rcases Deep.open_slice_pairs Try.underlying22 Try.underlying51 R.cellsLine rfl rfl R.cellsStr R.cellsBool hf with ⟨hcs, hx⟩ | ⟨a, len', cap', m, n, V0, V1, D0, D1, P0, P1, hcs, _, hl, hm, hmm, hx, hcell⟩
  · exact ⟨none, 0, [], hcs, Nat.le_refl _, Nat.zero_le _, fun h => absurd h (by simp), fun y hy => by simp at hy, fun _ => rfl⟩
  · have hle : len' ≤ m := by rw [hmm]; split <;> omega
    have each : ∀ i, i < len' → w.cell? (a.add (i * 2)) = some (.string ⟨(R.textOf (V0 i)).toArray⟩) ∧ w.cell? (a.add (i * 2 + 1)) = some (.bool (R.bareOf (V1 i))) ∧ (R.textOf (V0 i)).length ≤ maxLen := by
      intro i hi
      obtain ⟨c0, c1, t0, t1⟩ := hcell i (by omega)
      obtain ⟨s, hs, hd, hz⟩ := DataW.trod_string Try.underlying9 t0
      obtain ⟨b, hb, _⟩ := DataW.trod_bool Try.underlying4 t1
      simp only [List.cons.injEq, and_true] at hs hb
      rw [hs] at c0
      rw [hb] at c1
      refine ⟨by rw [c0, hs]; simp [R.textOf], by rw [c1, hb]; rfl, ?_⟩
      rw [hs]
      show s.data.toList.length ≤ maxLen
      rw [← Lib.size_eq]
      exact hz
    have htl : ((List.range len').map fun i => (R.textOf (V0 i), R.bareOf (V1 i))).length = len' := by simp
    refine ⟨some a, cap', (List.range len').map fun i => (R.textOf (V0 i), R.bareOf (V1 i)), by rw [htl, hcs], by rw [htl]; exact hl, hm, fun hp => ?_, fun y hy => ?_, fun e => by cases e⟩
    · rw [htl] at hp
      obtain ⟨bk, off, spot⟩ := a
      have hspot : spot = none := by simpa [Addr.add] using World.cell?_spot (each 0 hp).1
      subst hspot
      have h0 := (each 0 hp).1
      refine ⟨bk, off, rfl, World.block_lt_of_cell? w _ h0, fun j hj => ?_⟩
      rw [htl] at hj
      have := each j hj
      rw [add_plain, add_plain, ← Nat.add_assoc] at this
      simp only [List.getElem_map, List.getElem_range]
      exact ⟨this.1, this.2.1⟩
    · obtain ⟨i, hi, rfl⟩ := List.mem_map.1 hy
      exact (each i (List.mem_range.1 hi)).2.2
set_option maxRecDepth 100000 in
theorem lines_argY {r : Reach} {b0 : Nat} {v : Value} {d : DataW H} {p : List MemPlace} (hv : Value.okWide Try.prog w r b0 22 v) (h : DataW.Trod enc Try.prog w base spare held 22 v d p) :
    ∃ (A : Option Addr) (cap : Nat) (xs : List Mg.Ln), v = .slice A xs.length cap ∧ xs.length ≤ maxLen ∧ xs.length ≤ cap ∧ T.LinesIn w A xs ∧ (∀ y ∈ xs, y.1.length ≤ maxLen) ∧ (A = none → cap = 0) := by
  obtain ⟨a0, len, cap, rfl⟩ := okWide_slice Try.underlying22 hv
  obtain ⟨fuel, hf⟩ := h
  obtain ⟨A, cap', xs, hcs, h1, h2, h3, h4, h5⟩ := lines_readY hf
  simp only [Value.cells, List.cons.injEq, Value.slice.injEq, and_true] at hcs
  obtain ⟨rfl, rfl, rfl⟩ := hcs
  exact ⟨_, _, xs, rfl, Nat.le_trans h1 h2, h1, h3, h4, h5⟩
end
end Go.Proofs.Ytkflhcfopejigaa.RZ

namespace Go.Proofs.Ytkflhcfopejigaa.RP
open Go.ChangeShapes Go.WideShapes Go.ChangeAt Go.RowKit Go.Deep Go.Joins

theorem cInt : Try.prog.cellsOf 3 = 1 := by kernel_rfl
theorem cStr : Try.prog.cellsOf 9 = 1 := by kernel_rfl
theorem cBool : Try.prog.cellsOf 4 = 1 := by kernel_rfl
section
variable {H : Type} {enc : TypeId × Value → H} {w : World} {base : Nat} {spare : Nat → Bool} {held : Bool} {fuel : Nat} {cs : List Value} {x : DataW H × List MemPlace}
theorem list2 {α : Type} {l : List α} (h : l.length = 2) : ∃ a b, l = [a, b] := by
  match l, h with
  | [a, b], _ => exact ⟨a, b, rfl⟩
theorem list3 {α : Type} {l : List α} (h : l.length = 3) : ∃ a b c, l = [a, b, c] := by
  match l, h with
  | [a, b, c], _ => exact ⟨a, b, c, rfl⟩
theorem list4 {α : Type} {l : List α} (h : l.length = 4) : ∃ a b c d, l = [a, b, c, d] := by
  match l, h with
  | [a, b, c, d], _ => exact ⟨a, b, c, d, rfl⟩
theorem list9 {α : Type} {l : List α} (h : l.length = 9) : ∃ a b c d e f g i j, l = [a, b, c, d, e, f, g, i, j] := by
  match l, h with
  | [a, b, c, d, e, f, g, i, j], _ => exact ⟨a, b, c, d, e, f, g, i, j, rfl⟩
end
end Go.Proofs.Ytkflhcfopejigaa.RP

namespace Go.Proofs.Ytkflhcfopejigaa.RI
open Go.ChangeShapes Go.WideShapes Go.ChangeAt Go.RowKit Go.Deep Go.Joins

theorem cLine : Try.prog.cellsOf 51 = 2 := by kernel_rfl
section
variable {H : Type} {enc : TypeId × Value → H} {w : World} {base : Nat} {spare : Nat → Bool} {held : Bool} {fuel : Nat} {cs : List Value} {x : DataW H × List MemPlace}
theorem list6 {α : Type} {l : List α} (h : l.length = 6) : ∃ a b c d e f, l = [a, b, c, d, e, f] := by
  match l, h with
  | [a, b, c, d, e, f], _ => exact ⟨a, b, c, d, e, f, rfl⟩
theorem line_read (h : DataW.trod enc Try.prog w base spare held fuel 51 cs = some x) : ∃ (s : ByteArray) (t : Bool), cs = [.string s, .bool t] ∧ s.size ≤ maxLen := by
  obtain ⟨y0, y1, n, -, hl, h0, h1⟩ := trod_struct2 Try.underlying51 h
  dsimp only at h0 h1
  rw [cLine] at hl
  rw [RP.cStr] at h0
  rw [RP.cBool] at h1
  obtain ⟨a, b, rfl⟩ := RP.list2 hl
  obtain ⟨s, e0, -, z0⟩ := DataW.trod_string Try.underlying9 h0
  obtain ⟨t, e1, -⟩ := DataW.trod_bool Try.underlying4 h1
  have e0' : a = .string s := by injection e0
  have e1' : b = .bool t := by injection e1
  exact ⟨s, t, by rw [e0', e1'], z0⟩
instance : Inhabited I.It := ⟨⟨0, 0, 0, false, [], false⟩⟩
end
end Go.Proofs.Ytkflhcfopejigaa.RI

namespace Go.Proofs.Ytkflhcfopejigaa.R
open Go.ChangeShapes Go.WideShapes Go.ChangeAt Go.RowKit

set_option maxRecDepth 100000 in
theorem cellsInt : Try.prog.cellsOf 3 = 1 := by kernel_rfl
set_option maxRecDepth 100000 in
theorem ints_arg {H : Type} {enc : TypeId × Value → H} {W : World} {r : Reach} {b0 base : Nat} {sp : Nat → Bool} {held : Bool} {v : Value} {d : DataW H} {p : List MemPlace}
    (hv : Value.okWide Try.prog W r b0 67 v) (h : DataW.Trod enc Try.prog W base sp held 67 v d p) :
    ∃ (A : Option Addr) (cap : Nat) (xs : List Int), v = .slice A xs.length cap ∧ xs.length ≤ maxLen ∧ (0 < xs.length → ∃ bk off, A = some ⟨bk, off, none⟩ ∧ bk < W.heap.size ∧ L.IntsAt W bk off xs) := by
  obtain ⟨a0, len, cap, rfl⟩ := okWide_slice Try.underlying67 hv
  obtain ⟨fuel, hf⟩ := h
  rcases open_ints Try.underlying67 Try.underlying3 cellsInt hf with ⟨hcs, hx⟩ | ⟨a, len', cap', zs, hcs, _, hl, hm, hz, hx, hcell, hwz⟩
  · simp only [Value.cells, List.cons.injEq, Value.slice.injEq, and_true] at hcs
    obtain ⟨rfl, rfl, rfl⟩ := hcs
    exact ⟨none, 0, [], rfl, Nat.zero_le _, fun h => absurd h (by simp)⟩
  · simp only [Value.cells, List.cons.injEq, Value.slice.injEq, and_true] at hcs
    obtain ⟨rfl, rfl, rfl⟩ := hcs
    have hle : len ≤ zs.length := by rw [hz]; split <;> omega
    have htl : (zs.take len).length = len := by rw [List.length_take]; omega
    refine ⟨some a, cap, zs.take len, by rw [htl], by rw [htl]; omega, fun hp => ?_⟩
    rw [htl] at hp
    obtain ⟨bk, off, rfl, hc⟩ := ints_at hcell (by omega)
    have h0 := hc 0 (by omega)
    refine ⟨bk, off, rfl, World.block_lt_of_cell? W ⟨bk, off + 0, none⟩ h0, fun j hj => ?_⟩
    rw [htl] at hj
    rw [hc j (by omega), List.getElem_take, List.getD_eq_getElem?_getD, List.getElem?_eq_getElem (by omega)]
    rfl
end Go.Proofs.Ytkflhcfopejigaa.R

namespace Go.Proofs.Ytkflhcfopejigaa.RZ
set_option linter.unusedVariables false
set_option linter.unusedSimpArgs false
open Go.ChangeShapes Go.WideShapes Go.ChangeAt Go.RowKit Go.Joins
section
variable {H : Type} {enc : TypeId × Value → H} {w : World} {base : Nat} {spare : Nat → Bool} {held : Bool}
theorem slice_shape {t e : TypeId} {A : Option Addr} {n cap : Nat} {d : DataW H} {p : List MemPlace} (hu : Try.prog.underlying t = some (.slice e)) (h : DataW.Trod enc Try.prog w base spare held t (.slice A n cap) d p) :
    (n = 0 ∧ d = .nil) ∨ ∃ es sp, d = .slice es sp ∧ es.length = n := by
  obtain ⟨fuel, hf⟩ := h
  rcases Deep.open_slice hu hf with ⟨hcs, hx⟩ | ⟨a, len, cap', m, k, D, Pl, hcs, _, _, _, _, hx, _⟩
  · simp only [Value.cells, List.cons.injEq, Value.slice.injEq, and_true] at hcs
    obtain ⟨rfl, rfl, rfl⟩ := hcs
    injection hx with h1 h2
    exact .inl ⟨rfl, h1⟩
  · simp only [Value.cells, List.cons.injEq, Value.slice.injEq, and_true] at hcs
    obtain ⟨rfl, rfl, rfl⟩ := hcs
    injection hx with h1 h2
    exact .inr ⟨_, _, h1, by simp⟩
theorem slice_size {ts : List TypeId} {ds : List (DataW H)} (hs : (DataW.weightsEach Try.prog ts ds).all (· ≤ reachBytes) = true) {j : Nat} {t e : TypeId} {A : Option Addr} {n cap : Nat} {d : DataW H} {p : List MemPlace} (ht : ts[j]? = some t) (hd : ds[j]? = some d) (hu : Try.prog.underlying t = some (.slice e)) (h : DataW.Trod enc Try.prog w base spare held t (.slice A n cap) d p) :
    n * Try.prog.bytesOf e ≤ reachBytes := by
  rcases slice_shape hu h with ⟨rfl, -⟩ | ⟨es, sp, rfl, rfl⟩
  · simp
  · exact Nat.le_trans (Nat.mul_le_mul_right _ (Nat.le_add_right _ _)) (sized_slice hs ht hd hu)
theorem bytesInt : Try.prog.bytesOf 3 = 8 := by kernel_rfl
theorem ints_size {ts : List TypeId} {ds : List (DataW H)} (hs : (DataW.weightsEach Try.prog ts ds).all (· ≤ reachBytes) = true) {j : Nat} {A : Option Addr} {n cap : Nat} {d : DataW H} {p : List MemPlace} (ht : ts[j]? = some 67) (hd : ds[j]? = some d) (h : DataW.Trod enc Try.prog w base spare held 67 (.slice A n cap) d p) : n * 8 ≤ 140737488351232 := by
  have := slice_size hs ht hd Try.underlying67 h
  rw [bytesInt] at this
  exact this
end
end Go.Proofs.Ytkflhcfopejigaa.RZ

namespace Go.Proofs.Ytkflhcfopejigaa.RZ
open Go.ChangeShapes Go.WideShapes Go.ChangeAt Go.RowKit Go.Joins
set_option maxRecDepth 100000 in
theorem ints_argC {H : Type} {enc : TypeId × Value → H} {W : World} {r : Reach} {b0 base : Nat} {sp : Nat → Bool} {held : Bool} {v : Value} {d : DataW H} {p : List MemPlace}
    (hv : Value.okWide Try.prog W r b0 67 v) (h : DataW.Trod enc Try.prog W base sp held 67 v d p) :
    ∃ (A : Option Addr) (cap : Nat) (xs : List Int), v = .slice A xs.length cap ∧ xs.length ≤ maxLen ∧ xs.length ≤ cap ∧ V.IntsIn W A xs ∧ ∀ x ∈ xs, -9223372036854775808 ≤ x ∧ x ≤ 9223372036854775807 := by
  obtain ⟨a0, len, cap, rfl⟩ := okWide_slice Try.underlying67 hv
  obtain ⟨fuel, hf⟩ := h
  rcases open_ints Try.underlying67 Try.underlying3 R.cellsInt hf with ⟨hcs, hx⟩ | ⟨a, len', cap', zs, hcs, _, hl, hm, hz, hx, hcell, hwz⟩
  · simp only [Value.cells, List.cons.injEq, Value.slice.injEq, and_true] at hcs
    obtain ⟨rfl, rfl, rfl⟩ := hcs
    exact ⟨none, 0, [], rfl, Nat.zero_le _, Nat.le_refl _, fun h => absurd h (by simp), fun x hx => by simp at hx⟩
  · simp only [Value.cells, List.cons.injEq, Value.slice.injEq, and_true] at hcs
    obtain ⟨rfl, rfl, rfl⟩ := hcs
    have hle : len ≤ zs.length := by rw [hz]; split <;> omega
    have htl : (zs.take len).length = len := by rw [List.length_take]; omega
    refine ⟨some a, cap, zs.take len, by rw [htl], by rw [htl]; omega, by rw [htl]; exact hl, fun hp => ?_, fun x hx => ?_⟩
    · rw [htl] at hp
      obtain ⟨bk, off, rfl, hc⟩ := ints_at hcell (by omega)
      have h0 := hc 0 (by omega)
      refine ⟨bk, off, rfl, World.block_lt_of_cell? W ⟨bk, off + 0, none⟩ h0, fun j hj => ?_⟩
      rw [htl] at hj
      rw [hc j (by omega), List.getElem_take, List.getD_eq_getElem?_getD, List.getElem?_eq_getElem (by omega)]
      rfl
    · exact bounds_i64 (hwz x (List.mem_of_mem_take hx))
end Go.Proofs.Ytkflhcfopejigaa.RZ

namespace Go.Proofs.Ytkflhcfopejigaa.RZ
set_option linter.unusedVariables false
set_option linter.unusedSimpArgs false
open Go.ChangeShapes Go.WideShapes Go.ChangeAt Go.RowKit Go.Deep Go.Joins
section
variable {H : Type} {enc : TypeId × Value → H} {w : World} {base : Nat} {spare : Nat → Bool} {held : Bool}
theorem cellsPr : Try.prog.cellsOf 57 = 2 := by kernel_rfl
set_option maxRecDepth 100000 in
theorem pr_trod {fuel : Nat} {cs : List Value} {x : DataW H × List MemPlace} (h : DataW.trod enc Try.prog w base spare held fuel 57 cs = some x) :
    ∃ p : Int × Int, cs = [.int .i64 p.1, .int .i64 p.2] ∧ (Lit.int .i64 p.1).wf = true ∧ (Lit.int .i64 p.2).wf = true := by
  cases fuel with
  | zero => simp [DataW.trod] at h
  | succ m =>
    rw [DataW.trod_step] at h
    unfold DataW.trodStep at h
    simp only [Try.underlying57] at h
    split at h
    · rename_i hl
      simp only [Option.map_eq_some_iff] at h
      obtain ⟨ys, hy, -⟩ := h
      rw [R.cellsInt] at hy
      rw [cellsPr] at hl
      rw [show List.range 2 = [0, 1] from rfl] at hy
      simp only [List.mapM_cons, List.mapM_nil, bind, Option.bind_eq_some_iff, pure] at hy
      obtain ⟨y0, h0, t, ⟨y1, h1, -⟩, -⟩ := hy
      match cs, hl with
      | [v0, v1], _ =>
        obtain ⟨a, ea, -, wa⟩ := DataW.trod_int Try.underlying3 h0
        obtain ⟨b, eb, -, wb⟩ := DataW.trod_int Try.underlying3 h1
        simp at ea eb
        exact ⟨(a, b), by rw [ea, eb], wa, wb⟩
    · cases h
set_option maxRecDepth 100000 in
theorem prs_arg {r : Reach} {b0 : Nat} {v : Value} {d : DataW H} {p : List MemPlace} (hv : Value.okWide Try.prog w r b0 23 v) (h : DataW.Trod enc Try.prog w base spare held 23 v d p) :
    ∃ (A : Option Addr) (cap : Nat) (ps : List (Int × Int)), v = .slice A ps.length cap ∧ ps.length ≤ maxLen ∧ ps.length ≤ cap ∧ N.PrIn w A ps ∧ ∀ z ∈ ps, (-9223372036854775808 ≤ z.1 ∧ z.1 ≤ 9223372036854775807) ∧ -9223372036854775808 ≤ z.2 ∧ z.2 ≤ 9223372036854775807 := by
  obtain ⟨a0, len, cap, rfl⟩ := okWide_slice Try.underlying23 hv
  obtain ⟨fuel, hf⟩ := h
  rcases Deep.open_slice Try.underlying23 hf with ⟨hcs, hx⟩ | ⟨a, len', cap', m, n, D, Pl, hcs, _, hl, hm, hmm, hx, hcell⟩
  · simp only [Value.cells, List.cons.injEq, Value.slice.injEq, and_true] at hcs
    obtain ⟨rfl, rfl, rfl⟩ := hcs
    exact ⟨none, 0, [], rfl, Nat.zero_le _, Nat.le_refl _, fun h => absurd h (by simp), fun z hz => by simp at hz⟩
  · simp only [Value.cells, List.cons.injEq, Value.slice.injEq, and_true] at hcs
    obtain ⟨rfl, rfl, rfl⟩ := hcs
    have hle : len ≤ m := by rw [hmm]; split <;> omega
    obtain ⟨ps, hps, hp⟩ : ∃ ps : List (Int × Int), ps.length = len ∧ ∀ (i : Nat) (h : i < ps.length), (w.cell? (a.add (i * 2)) = some (.int .i64 ps[i].1) ∧ w.cell? (a.add (i * 2 + 1)) = some (.int .i64 ps[i].2)) ∧ (Lit.int .i64 ps[i].1).wf = true ∧ (Lit.int .i64 ps[i].2).wf = true := by
      have each : ∀ i, i < len → ∃ q : Int × Int, (w.cell? (a.add (i * 2)) = some (.int .i64 q.1) ∧ w.cell? (a.add (i * 2 + 1)) = some (.int .i64 q.2)) ∧ (Lit.int .i64 q.1).wf = true ∧ (Lit.int .i64 q.2).wf = true := fun i hi => by
        obtain ⟨cs', h1, h2⟩ := hcell i (by omega)
        rw [cellsPr] at h1
        obtain ⟨_, hlen, hat⟩ := World.cells?_some h1
        obtain ⟨q, rfl, w1, w2⟩ := pr_trod h2
        have e0 := hat 0 (by omega)
        have e1 := hat 1 (by omega)
        rw [add_add] at e0 e1
        exact ⟨q, ⟨by simpa using e0, by simpa using e1⟩, w1, w2⟩
      obtain ⟨f, hf⟩ := Deep.choose_lt each
      refine ⟨(List.range len).map f, by simp, fun i h => ?_⟩
      simp only [List.getElem_map, List.getElem_range]
      exact hf i (by simpa using h)
    refine ⟨some a, cap, ps, by rw [hps], by omega, by omega, fun h0 => ?_, fun z hz => ?_⟩
    · obtain ⟨bk, off, spot⟩ := a
      have hspot : spot = none := by simpa [Addr.add] using World.cell?_spot (hp 0 h0).1.1
      subst hspot
      refine ⟨bk, off, rfl, World.block_lt_of_cell? w _ (hp 0 h0).1.1, fun j hj => ?_⟩
      obtain ⟨⟨c0, c1⟩, -⟩ := hp j hj
      rw [add_plain] at c0 c1
      rw [← Nat.add_assoc] at c1
      exact ⟨c0, c1⟩
    · obtain ⟨j, hj, rfl⟩ := List.mem_iff_getElem.1 hz
      exact ⟨bounds_i64 (hp j hj).2.1, bounds_i64 (hp j hj).2.2⟩
end
end Go.Proofs.Ytkflhcfopejigaa.RZ
