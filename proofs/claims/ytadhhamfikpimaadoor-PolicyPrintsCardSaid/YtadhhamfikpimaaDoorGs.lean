/-
  The contract of policy's line: its words with a blank between each two, as a line.
  The contract of policy's lines: of a policy that may be, a line for each of its numbers, for what is hidden, for each user, and for each floor.
  The contract of policy's Print: a policy that may be, as a text; or why there is none.
-/
import Derived.Test.YtadhhamfikpimaaDoorGc
import Derived.Test.YtadhhamfikpimaaDoorGi
import Derived.WalkSmall
import Derived.StillTailTactics
import Derived.Deep.AppendLies
import Derived.Deep.RegionHeldLaw
import Derived.Deep.DrawnRows
import Derived.Test.YtadhhamfikpimaaDoorGPolFb
import Derived.Test.YtadhhamfikpimaaDoorGg
namespace Go.Proofs.YtadhhamfikpimaaDoor.O
set_option linter.unusedVariables false
set_option linter.unusedSimpArgs false
open Go.RowKit
open T

theorem ln_cells {W : World} {b : Nat} {a0 a1 : Value} (h : W.heap[b]? = some (.cells #[a0, a1] 51 (0, 0))) : W.cell? ⟨b, 0, none⟩ = some a0 ∧ W.cell? ⟨b, 1, none⟩ = some a1 ∧ W.frozen? ⟨b, 0, none⟩ = false ∧ W.frozen? ⟨b, 1, none⟩ = false :=
  ⟨L.blk_cell h 0, L.blk_cell h 1, L.blk_free h 0, L.blk_free h 1⟩
set_option maxRecDepth 100000 in
set_option maxHeartbeats 1000000 in
theorem line_walk (v : Value) (y : ByteArray) (w : World) (HJ : Hid (∀ W : World, Below w.heap.size w W → Calls Tryd.prog 98 #[v, .string ⟨#[32]⟩] W fun e w' => e = .returned (.string y) ∧ Below W.heap.size W w')) :
    Calls Tryd.prog 72 #[v] w fun e w' => e = .returned (.agg #[.string y, .bool false]) ∧ Below w.heap.size w w' := by
  obtain ⟨W, hW⟩ : ∃ W : World, W = w.alloc (.cells #[.string ⟨#[]⟩, .bool false] 51) := ⟨_, rfl⟩
  have HP := Lib.hid (show W.heap[w.heap.size]? = some (.cells #[.string ⟨#[]⟩, .bool false] 51 (0, 0)) by rw [hW]; exact heap_alloc_new w _)
  have hbW : Below w.heap.size w W := by rw [hW]; exact (Below.refl _ _).alloc (Nat.le_refl _) _
  have HJ2 := Lib.hid (HJ.out W hbW)
  have HB := Lib.hid hbW
  clear HJ hbW
  go_enter Tryd.func72, Tryd.ntmps72
  go_wp2_with fail
  rw [← hW]
  clear hW
  obtain ⟨rb, hrb⟩ : ∃ rb, rb = w.heap.size := ⟨_, rfl⟩
  rw [← hrb] at HP HB ⊢
  have HRB := Lib.hid hrb
  clear hrb
  with_reducible refine (HJ2.out).mono ?_
  rintro e w2 ⟨rfl, hb2⟩
  have HP2 := Lib.hid ((hb2.block rb (L.blk_lt HP.out)).trans HP.out)
  have HB2 := Lib.hid (HB.out.trans (hb2.mono (Nat.le_of_lt (L.blk_lt HP.out))))
  obtain ⟨c0, c1, f0, f1⟩ := ln_cells HP2.out
  clear hb2 HP HB
  go_wp2_with fail
  clear c0 c1 f0 f1
  have e1 := L.blk_set HP2.out 0 (.string y)
  have e2 := L.blk_set e1 1 (.bool false)
  obtain ⟨q0, q1, -, -⟩ := ln_cells e2
  refine bodyPost_ret (v := .agg #[.string y, .bool false]) (by simp [results, Tryd.results72, go_sem, q0, q1]) rfl ⟨rfl, ?_⟩
  have := (HB2.out.setCell (p := ⟨rb, 0, none⟩) (Nat.le_refl _) (.string y)).setCell (p := ⟨rb, 1, none⟩) (Nat.le_refl _) (.bool false)
  rw [HRB.out] at this ⊢
  exact this
/-- A line of the words that a row holds. -/
theorem line_any (g o cap : Nat) (xs : List ByteArray) (w : World) (hc : ∀ (j : Nat) x, xs[j]? = some x → w.cell? ⟨g, o + j, none⟩ = some (.string x)) (hg : g < w.heap.size) (hcap : xs.length ≤ cap) (hN : xs.length ≤ 140737488355328) (hlen : (Lib.join (xs.map (·.data.toList)) [32]).length ≤ 140737488355328) :
    Calls Tryd.prog 72 #[.slice (some ⟨g, o, none⟩) xs.length cap] w fun e w' => e = .returned (.agg #[.string ⟨(Lib.join (xs.map (·.data.toList)) [32]).toArray⟩, .bool false]) ∧ Below w.heap.size w w' :=
  line_walk _ _ w (Lib.hid fun W hb => Tryd.strings_Join g o cap xs ⟨#[32]⟩ W (fun j x hj => (hb.cell (p := ⟨g, _, none⟩) hg).trans (hc j x hj)) (Nat.lt_of_lt_of_le hg hb.size) hN hcap hlen)
end Go.Proofs.YtadhhamfikpimaaDoor.O

namespace Go.Proofs.YtadhhamfikpimaaDoor.O
set_option linter.unusedVariables false
set_option linter.unusedSimpArgs false
open Go.RowKit
open T

def ones (xs : List (List UInt8)) : List (List UInt8 × Bool) := xs.map fun t => (t, false)
theorem ones_snoc (xs : List (List UInt8)) (t : List UInt8) : lineCells (ones (xs ++ [t])) = lineCells (ones xs) ++ [.string ⟨t.toArray⟩, .bool false] := by
  unfold ones
  rw [List.map_append, List.map_cons, List.map_nil, lineCells_snoc]
def numLn (ns : List Int) (k : Nat) : List UInt8 := keys.getD k [] ++ 32 :: P.decimal (ns.getD k 0)
def usrLn (u : Usr) : List UInt8 := kUser ++ 32 :: (u.name ++ 32 :: (L.print u.lv u.ct ++ if u.ad then 32 :: kAdmin else []))
def flrLn (f : Flr) : List UInt8 := kFloor ++ 32 :: (f.pre ++ 32 :: L.print f.lv f.ct)
def numLns (ns : List Int) (k : Nat) : List (List UInt8) := (List.range k).map (numLn ns)
def polLns (ns : List Int) (hid : List UInt8) (us : List Usr) (fs : List Flr) : List (List UInt8) :=
  numLns ns 6 ++ [kHidden ++ 32 :: hid] ++ us.map usrLn ++ fs.map flrLn
theorem numLns_snoc (ns : List Int) (k : Nat) : numLns ns (k + 1) = numLns ns k ++ [numLn ns k] := by
  unfold numLns
  rw [List.range_succ, List.map_append]
  rfl
theorem join_two (a b : List UInt8) : Lib.join [a, b] [32] = a ++ 32 :: b := by simp [Lib.join]
theorem join_three (a b c : List UInt8) : Lib.join [a, b, c] [32] = a ++ 32 :: (b ++ 32 :: c) := by simp [Lib.join]
theorem join_four (a b c d : List UInt8) : Lib.join [a, b, c, d] [32] = a ++ 32 :: (b ++ 32 :: (c ++ 32 :: d)) := by simp [Lib.join]
def LnC (W : World) (g n cap : Nat) (z : ByteArray) : Prop := Calls Tryd.prog 72 #[.slice (some ⟨g, 0, none⟩) n cap] W fun e w' => e = .returned (.agg #[.string z, .bool false]) ∧ Below W.heap.size W w'
theorem LnC.call {W : World} {g n cap : Nat} {z : ByteArray} (h : LnC W g n cap z) : Calls Tryd.prog 72 #[.slice (some ⟨g, 0, none⟩) n cap] W fun e w' => e = .returned (.agg #[.string z, .bool false]) ∧ Below W.heap.size W w' := h
theorem rowB {w w' : World} {base : Nat} {e : TypeId} {size n : Nat} {v : Value} {xs : List Value} (h : w.ownsRow base e size v n xs) (hb : Below w.heap.size w w') : w'.ownsRow base e size v n xs :=
  h.kept (grown_of hb none) (by cases v.ownBlock <;> simp)
/-- A line of a row of words. -/
theorem ln_words {W : World} {g cap : Nat} (ws : List (List UInt8)) (hc : ∀ (j : Nat) (hj : j < ws.length), W.cell? ⟨g, j, none⟩ = some (.string ⟨ws[j].toArray⟩)) (hg : g < W.heap.size) (hcap : ws.length ≤ cap) (hN : ws.length ≤ 4) (hl : (Lib.join ws [32]).length ≤ 140737488355328) :
    LnC W g ws.length cap ⟨(Lib.join ws [32]).toArray⟩ := by
  have e : (ws.map fun l => (⟨l.toArray⟩ : ByteArray)).map (·.data.toList) = ws := by
    rw [List.map_map]
    exact (List.map_congr_left (fun l _ => rfl)).trans (List.map_id _)
  have := line_any g 0 cap (ws.map fun l => ⟨l.toArray⟩) W (fun j x hj => by
    rw [List.getElem?_map] at hj
    obtain ⟨l, h1, rfl⟩ := Option.map_eq_some_iff.1 hj
    obtain ⟨hj', rfl⟩ := List.getElem?_eq_some_iff.1 h1
    rw [Nat.zero_add]
    exact hc j hj') hg (by rw [List.length_map]; exact hcap) (by rw [List.length_map]; omega) (by rw [e]; exact hl)
  rw [e, List.length_map] at this
  exact this
theorem keys_len {k : Nat} (hk : k < 6) : (keys.getD k []).length ≤ 10 := by
  match k, hk with
  | 0, _ => decide
  | 1, _ => decide
  | 2, _ => decide
  | 3, _ => decide
  | 4, _ => decide
  | 5, _ => decide
theorem two_words {g : Nat} {W : World} {a b : List UInt8} {t : TypeId} (h : W.heap[g]? = some (.cells #[.string ⟨a.toArray⟩, .string ⟨b.toArray⟩] t (0, 0))) : ∀ (j : Nat) (hj : j < [a, b].length), W.cell? ⟨g, j, none⟩ = some (.string ⟨[a, b][j].toArray⟩)
  | 0, _ => L.blk_cell h 0
  | 1, _ => L.blk_cell h 1
theorem three_words {g : Nat} {W : World} {a b c : List UInt8} {t : TypeId} (h : W.heap[g]? = some (.cells #[.string ⟨a.toArray⟩, .string ⟨b.toArray⟩, .string ⟨c.toArray⟩] t (0, 0))) : ∀ (j : Nat) (hj : j < [a, b, c].length), W.cell? ⟨g, j, none⟩ = some (.string ⟨[a, b, c][j].toArray⟩)
  | 0, _ => L.blk_cell h 0
  | 1, _ => L.blk_cell h 1
  | 2, _ => L.blk_cell h 2
theorem cell_one_new (w : World) (a : Value) (t : TypeId) : ∀ (j : Nat) (u : Value), [a][j]? = some u → (w.alloc (.cells #[a] t)).cell? ((⟨w.heap.size, 0, none⟩ : Addr).add j) = some u
  | 0, u, h => by
    simp at h
    subst h
    exact L.blk_cell (heap_alloc_new w (.cells #[a] t)) 0
  | j + 1, u, h => by simp at h
theorem four_words {g : Nat} {W : World} {a b c d : List UInt8} (h : ∀ (j : Nat) (u : Value), [Value.string ⟨a.toArray⟩, .string ⟨b.toArray⟩, .string ⟨c.toArray⟩, .string ⟨d.toArray⟩][j]? = some u → W.cell? ⟨g, j, none⟩ = some u) : ∀ (j : Nat) (hj : j < [a, b, c, d].length), W.cell? ⟨g, j, none⟩ = some (.string ⟨[a, b, c, d][j].toArray⟩)
  | 0, _ => h 0 _ rfl
  | 1, _ => h 1 _ rfl
  | 2, _ => h 2 _ rfl
  | 3, _ => h 3 _ rfl
theorem usr_plain (nm : List UInt8) (l : Int) (c : Nat) : usrLn ⟨nm, l, c, false⟩ = Lib.join [kUser, nm, L.print l c] [32] := by rw [join_three]; simp [usrLn]
theorem usr_admin (nm : List UInt8) (l : Int) (c : Nat) : usrLn ⟨nm, l, c, true⟩ = Lib.join [kUser, nm, L.print l c, kAdmin] [32] := by rw [join_four]; simp [usrLn]
theorem flr_plain (nm : List UInt8) (l : Int) (c : Nat) : flrLn ⟨nm, l, c⟩ = Lib.join [kFloor, nm, L.print l c] [32] := by rw [join_three]; rfl
theorem take_map_snoc' {α β : Type} (f : α → β) (l : List α) {j : Nat} (h : j < l.length) : (l.map f).take (j + 1) = (l.map f).take j ++ [f l[j]] := by
  rw [List.take_add_one, List.getElem?_map, List.getElem?_eq_getElem h]
  rfl
theorem take_map_snoc {α β : Type} (f : α → β) (l : List α) {j : Nat} (h : j < l.length) : (l.take (j + 1)).map f = (l.take j).map f ++ [f l[j]] := by
  rw [List.take_add_one, List.getElem?_eq_getElem h, List.map_append]
  rfl
/-- What stays while the lines are laid: all that was there, the policy's box, the numbers' row. -/
structure LnK (w : World) (pb nb : Nat) (pc : Array Value) (W : World) : Prop where
  b : Below w.heap.size w W
  p : W.heap[pb]? = some (.cells pc 26 (0, 0))
  n : W.heap[nb]? = some (.cells (numCells pb 0) 112 (0, 0))
theorem LnK.below {w W W' : World} {pb nb : Nat} {pc : Array Value} (h : LnK w pb nb pc W) (hb : Below W.heap.size W W') : LnK w pb nb pc W' :=
  ⟨h.b.trans (hb.mono h.b.size), (hb.block pb (L.blk_lt h.p)).trans h.p, (hb.block nb (L.blk_lt h.n)).trans h.n⟩
theorem LnK.grown {w W W' : World} {pb nb n : Nat} {pc : Array Value} {o : Obj} {v : Value} {xs : List Value} (h : LnK w pb nb pc W) (hv : W.ownsRow w.heap.size 51 2 v n xs) (hg : (W.alloc o).grownBy W' v.ownBlock) : LnK w pb nb pc W' := by
  have hk := h.below ((Below.refl _ _).alloc (Nat.le_refl _) o)
  have hvA : (W.alloc o).ownsRow w.heap.size 51 2 v n xs := World.ownsRow.alloc hv o
  have ne : ∀ {g : Nat}, (∀ cs, (W.alloc o).heap[g]? ≠ some (.cells cs 51 (0, 0))) → some g ≠ v.ownBlock := fun hne e => by
    rcases own_ne hvA hne with h0 | h0
    · rw [h0] at e; cases e
    · exact h0 e.symm
  exact ⟨hk.b.grown hg hk.b.size (own_base hvA), (hg.block pb (L.blk_lt hk.p) (ne fun cs => ne_type (by decide) hk.p)).trans hk.p, (hg.block nb (L.blk_lt hk.n) (ne fun cs => ne_type (by decide) hk.n)).trans hk.n⟩
abbrev LRow (w W : World) (v : Value) (q : Nat) (xs : List (List UInt8)) : Prop := W.ownsRow w.heap.size 51 2 v q (lineCells (ones xs))
def NumD (n : Int) (y : ByteArray) : Prop := Dec n y


def PrC (l : Int) (c : Nat) (y : ByteArray) : Prop := ∀ W : World, Tab W → Calls Tryd.prog 74 #[L.lab l c] W fun e w' => e = .returned (.string y) ∧ Below W.heap.size W w'
theorem PrC.call {l : Int} {c : Nat} {y : ByteArray} (h : PrC l c y) (W : World) (ht : Tab W) : Calls Tryd.prog 74 #[L.lab l c] W fun e w' => e = .returned (.string y) ∧ Below W.heap.size W w' := h W ht
/-- A row of words that grows leaves the lines and what stays. -/
theorem LnK.far {w W W' : World} {pb nb g : Nat} {pc wc : Array Value} {o : Obj} (h : LnK w pb nb pc W) (hq : W.heap[g]? = some (.cells wc 9 (0, 0))) (hgb : w.heap.size ≤ g) (hg : (W.alloc o).grownBy W' (some g)) : LnK w pb nb pc W' := by
  have hk := h.below ((Below.refl _ _).alloc (Nat.le_refl _) o)
  have hp : some pb ≠ some g := fun e => by injection e with e; subst e; exact ne_type (a := 26) (b := 9) (by decide) h.p hq
  have hn : some nb ≠ some g := fun e => by injection e with e; subst e; exact ne_type (a := 112) (b := 9) (by decide) h.n hq
  exact ⟨hk.b.grown hg hk.b.size (fun k e => by injection e with e; subst e; exact hgb), (hg.block pb (L.blk_lt hk.p) hp).trans hk.p, (hg.block nb (L.blk_lt hk.n) hn).trans hk.n⟩
theorem row_far {w W W' : World} {g q : Nat} {wc : Array Value} {v : Value} {xs : List (List UInt8)} {o : Obj} (h : LRow w W v q xs) (hq : W.heap[g]? = some (.cells wc 9 (0, 0))) (hg : (W.alloc o).grownBy W' (some g)) : LRow w W' v q xs :=
  (World.ownsRow.alloc h o).kept hg (own_ne (World.ownsRow.alloc h o) (fun cs => ne_type (by decide) ((Below.heap_alloc W o g (L.blk_lt hq)).trans hq)))
/-- What stays, and a box of the round's own. -/
structure Cx (w : World) (pb nb : Nat) (pc : Array Value) (xb : Nat) (xc : Array Value) (xt : TypeId) (W : World) : Prop where
  k : LnK w pb nb pc W
  x : W.heap[xb]? = some (.cells xc xt (0, 0))
theorem Cx.below {w W W' : World} {pb nb xb : Nat} {pc xc : Array Value} {xt : TypeId} (h : Cx w pb nb pc xb xc xt W) (hb : Below W.heap.size W W') : Cx w pb nb pc xb xc xt W' := ⟨h.k.below hb, (hb.block xb (L.blk_lt h.x)).trans h.x⟩
theorem Cx.alloc {w W : World} {pb nb xb : Nat} {pc xc : Array Value} {xt : TypeId} (h : Cx w pb nb pc xb xc xt W) (o : Obj) : Cx w pb nb pc xb xc xt (W.alloc o) := h.below ((Below.refl _ _).alloc (Nat.le_refl _) o)
theorem Cx.grown {w W W' : World} {pb nb xb n : Nat} {pc xc : Array Value} {xt : TypeId} {v : Value} {xs : List Value} (h : Cx w pb nb pc xb xc xt W) (hxt : xt ≠ 51) (hv : W.ownsRow w.heap.size 51 2 v n xs) (hg : W.grownBy W' v.ownBlock) : Cx w pb nb pc xb xc xt W' := by
  have ne : ∀ {g : Nat}, (∀ cs, W.heap[g]? ≠ some (.cells cs 51 (0, 0))) → some g ≠ v.ownBlock := fun hne e => by
    rcases own_ne hv hne with h0 | h0
    · rw [h0] at e; cases e
    · exact h0 e.symm
  exact ⟨⟨h.k.b.grown hg h.k.b.size (own_base hv), (hg.block pb (L.blk_lt h.k.p) (ne fun cs => ne_type (by decide) h.k.p)).trans h.k.p, (hg.block nb (L.blk_lt h.k.n) (ne fun cs => ne_type (by decide) h.k.n)).trans h.k.n⟩, (hg.block xb (L.blk_lt h.x) (ne fun cs => ne_type hxt h.x)).trans h.x⟩
theorem alloc1 (W : World) (o : Obj) : Below W.heap.size W (W.alloc o) := (Below.refl _ _).alloc (Nat.le_refl _) o
def LnsEnd (w : World) (xs : List (List UInt8)) (e : Ending) (w' : World) : Prop :=
  ∃ v, e = .returned v ∧ w'.ownsRow w.heap.size 51 2 v xs.length (lineCells (ones xs)) ∧ Below w.heap.size w w'

set_option maxRecDepth 100000 in
set_option maxHeartbeats 16000000 in
theorem lines_walk (n0 n1 n2 n3 n4 n5 : Int) (hid : ByteArray) (hl : List UInt8) (uA fA : Option Addr) (ucap fcap : Nat) (us : List Usr) (fs : List Flr) (w : World) (HT : Hid (Tab w)) (HU : Hid (UsersIn w uA us)) (HF : Hid (FloorsIn w fA fs)) (hul : us.length ≤ 32) (hfl : fs.length ≤ 32) (HHL : Hid (hid = ⟨hl.toArray⟩)) (hh : hl.length ≤ 4096)
    (HNS : Hid (∀ k, k < 6 → -9223372036854775808 ≤ [n0, n1, n2, n3, n4, n5].getD k 0 ∧ [n0, n1, n2, n3, n4, n5].getD k 0 ≤ 9223372036854775807))
    (HUS : Hid (∀ u ∈ us, u.ct < 18446744073709551616 ∧ u.name.length ≤ 4096 ∧ -9223372036854775808 ≤ u.lv ∧ u.lv ≤ 9223372036854775807)) (HFS : Hid (∀ u ∈ fs, u.ct < 18446744073709551616 ∧ u.pre.length ≤ 4096 ∧ -9223372036854775808 ≤ u.lv ∧ u.lv ≤ 9223372036854775807)) :
    Calls Tryd.prog 41 #[polA n0 n1 n2 n3 n4 n5 hid (.slice uA us.length ucap) (.slice fA fs.length fcap)] w (LnsEnd w (polLns [n0, n1, n2, n3, n4, n5] hl us fs)) := by
  obtain ⟨i0, hi0, hz0, hz1, hz2⟩ := info_parts infoLine
  obtain ⟨i1, hi1, hy0, hy1, hy2⟩ := info_parts infoStr
  obtain ⟨W0, hW0⟩ : ∃ W0 : World, W0 = w.alloc (.cells #[.int .i64 n0, .int .i64 n1, .int .i64 n2, .int .i64 n3, .int .i64 n4, .int .i64 n5, .string hid, .slice uA us.length ucap, .slice fA fs.length fcap] 26) := ⟨_, rfl⟩
  have HP0 := Lib.hid (show W0.heap[w.heap.size]? = some (.cells #[.int .i64 n0, .int .i64 n1, .int .i64 n2, .int .i64 n3, .int .i64 n4, .int .i64 n5, .string hid, .slice uA us.length ucap, .slice fA fs.length fcap] 26 (0, 0)) by rw [hW0]; exact heap_alloc_new w _)
  have HB0 := Lib.hid (show Below w.heap.size w W0 by rw [hW0]; exact (Below.refl _ _).alloc (Nat.le_refl _) _)
  have HPOL := Lib.hid (show polLns [n0, n1, n2, n3, n4, n5] hl us fs = numLns [n0, n1, n2, n3, n4, n5] 6 ++ [Lib.join [kHidden, hl] [32]] ++ us.map usrLn ++ fs.map flrLn by rw [join_two]; rfl)
  generalize polLns [n0, n1, n2, n3, n4, n5] hl us fs = allLns at *
  go_enter Tryd.func41, Tryd.ntmps41
  go_wp2_with fail
  rw [← hW0]
  clear hW0
  with_reducible refine (numbers_any w.heap.size 0 W0).mono ?_
  rintro e w1 ⟨rfl, hn1, hb1, -⟩
  have HK1 : Hid (LnK w w.heap.size W0.heap.size #[.int .i64 n0, .int .i64 n1, .int .i64 n2, .int .i64 n3, .int .i64 n4, .int .i64 n5, .string hid, .slice uA us.length ucap, .slice fA fs.length fcap] w1) := Lib.hid ⟨HB0.out.trans (hb1.mono HB0.out.size), (hb1.block _ (L.blk_lt HP0.out)).trans HP0.out, hn1⟩
  clear hn1 hb1 HB0 HP0
  generalize W0.heap.size = nb at *
  obtain ⟨pb, hpb⟩ : ∃ pb, pb = w.heap.size := ⟨_, rfl⟩
  rw [← hpb] at HK1 ⊢
  have HPB := Lib.hid hpb
  clear hpb
  go_wp2_with fail
  go_loopg [3, 13] 6 (fun m v i wr => ∃ k : Nat, k ≤ 6 ∧ i = .int .i64 k ∧ 6 - k ≤ m ∧ Hid (LRow w wr v k (numLns [n0, n1, n2, n3, n4, n5] k)) ∧ Hid (LnK w pb nb #[.int .i64 n0, .int .i64 n1, .int .i64 n2, .int .i64 n3, .int .i64 n4, .int .i64 n5, .string hid, .slice uA us.length ucap, .slice fA fs.length fcap] wr))
  case atStart => exact ⟨0, by omega, rfl, by omega, Lib.hid ⟨by simp [numLns, ones, lineCells], .inl ⟨rfl, rfl⟩⟩, HK1⟩
  case round =>
    clear HK1
    obtain ⟨k, hk, rfl, hm, HV, HK⟩ := hrel
    by_cases hk6 : k < 6
    · obtain ⟨d0, d1, d2, d3⟩ := cell_num HK.out.n (Below.refl _ _) hk6
      have hki : (k : Int) < 6 := by omega
      have hk0 : (0 : Int) ≤ (k : Int) := by omega
      have hck := pol_at HK.out.p hk6
      have hkl := keys_len hk6
      have hdl : (P.decimal ([n0, n1, n2, n3, n4, n5].getD k 0)).length ≤ 1000 := Nat.le_trans (P.decimal_length _) (by omega)
      have HD : Hid (Dec ([n0, n1, n2, n3, n4, n5].getD k 0) ⟨(P.decimal ([n0, n1, n2, n3, n4, n5].getD k 0)).toArray⟩) := Lib.hid fun W ht => decimal_any _ W (HNS.out k hk6).1 (HNS.out k hk6).2 ht
      have HSN := Lib.hid (numLns_snoc [n0, n1, n2, n3, n4, n5] k)
      unfold numLn at HSN
      obtain ⟨nk, hnk⟩ : ∃ nk, nk = [n0, n1, n2, n3, n4, n5].getD k 0 := ⟨_, rfl⟩
      have HNKK := Lib.hid hnk.symm
      rw [← hnk] at hck hdl HD HSN
      clear hnk
      generalize keys.getD k [] = kw at *
      generalize lows.getD k 0 = lo at *
      generalize highs.getD k 0 = hi at *
      generalize P.decimal nk = dk at *
      have HJL := Lib.hid (show (Lib.join [kw, dk] [32]).length ≤ 140737488355328 by rw [join_two]; simp; omega)
      rw [← join_two] at HSN
      generalize hxw : (⟨kw.toArray⟩ : ByteArray) = xw at *
      generalize hxd : (⟨dk.toArray⟩ : ByteArray) = xd at *
      have HXW := Lib.hid hxw
      have HXD := Lib.hid hxd
      obtain ⟨W1, hW1⟩ : ∃ W1 : World, W1 = wr.alloc (.cells #[.string xw, .pointer (some ⟨pb, k, none⟩), .int .i64 lo, .int .i64 hi] 112) := ⟨_, rfl⟩
      have hb1 : Below wr.heap.size wr W1 := by rw [hW1]; exact (Below.refl _ _).alloc (Nat.le_refl _) _
      have hq1 : W1.heap[wr.heap.size]? = some (.cells #[.string xw, .pointer (some ⟨pb, k, none⟩), .int .i64 lo, .int .i64 hi] 112 (0, 0)) := by rw [hW1]; exact heap_alloc_new wr _
      have HV1 := Lib.hid (rowB HV.out hb1)
      have HKA := Lib.hid (HK.out.below hb1)
      have HCX : Hid (Cx w pb nb #[.int .i64 n0, .int .i64 n1, .int .i64 n2, .int .i64 n3, .int .i64 n4, .int .i64 n5, .string hid, .slice uA us.length ucap, .slice fA fs.length fcap] wr.heap.size #[.string xw, .pointer (some ⟨pb, k, none⟩), .int .i64 lo, .int .i64 hi] 112 W1) := Lib.hid ⟨HKA.out, hq1⟩
      have HNK : Hid ([n0, n1, n2, n3, n4, n5].getD k 0 = nk) := HNKK
      clear HKA HV HK hck hb1 hq1
      go_wp2_with fail
      rw [← hW1]
      clear hW1 d0 d1 d2 d3
      generalize wr.heap.size = xb at *
      obtain ⟨vA, vcap, hvv, -, -⟩ := own_form HV1.out
      subst hvv
      have HSX : Hid (∀ wz, Cx w pb nb #[.int .i64 n0, .int .i64 n1, .int .i64 n2, .int .i64 n3, .int .i64 n4, .int .i64 n5, .string hid, .slice uA us.length ucap, .slice fA fs.length fcap] xb #[.string xw, .pointer (some ⟨pb, k, none⟩), .int .i64 lo, .int .i64 hi] 112 wz → wz.cell? ⟨xb, 0, none⟩ = some (.string xw) ∧ wz.cell? ⟨xb, 1, none⟩ = some (.pointer (some ⟨pb, k, none⟩)) ∧ wz.cell? ⟨pb, k, none⟩ = some (.int .i64 nk) ∧ Cx w pb nb #[.int .i64 n0, .int .i64 n1, .int .i64 n2, .int .i64 n3, .int .i64 n4, .int .i64 n5, .string hid, .slice uA us.length ucap, .slice fA fs.length fcap] xb #[.string xw, .pointer (some ⟨pb, k, none⟩), .int .i64 lo, .int .i64 hi] 112 wz) := Lib.hid (fun wz h => ⟨L.blk_cell h.x 0, L.blk_cell h.x 1, by rw [← HNK.out]; exact pol_at h.k.p hk6, h⟩)
      clear HNK hxw hxd
      refine wp_region_held_drew (S := fun wz => wz.cell? ⟨xb, 0, none⟩ = some (.string xw) ∧ wz.cell? ⟨xb, 1, none⟩ = some (.pointer (some ⟨pb, k, none⟩)) ∧ wz.cell? ⟨pb, k, none⟩ = some (.int .i64 nk) ∧ Cx w pb nb #[.int .i64 n0, .int .i64 n1, .int .i64 n2, .int .i64 n3, .int .i64 n4, .int .i64 n5, .string hid, .slice uA us.length ucap, .slice fA fs.length fcap] xb #[.string xw, .pointer (some ⟨pb, k, none⟩), .int .i64 lo, .int .i64 hi] 112 wz) (by kernel_rfl) (HSX.out _ (HCX.out.below (drew_below W1))) (fun hH0 => ?_)
      have HVA := Lib.hid (rowB HV1.out (drew_below W1))
      clear HCX HV1
      generalize W1.drew = wA at *
      refine wpAnyH_take (i := 0) (oi := { dst := some 17, op := Go.Op.move (Go.Operand.tmp 3), type := 64, pos := "policy.go:292", after := #[], guard := none }) (v := ?_) rfl (by kernel_rfl) (by kernel_rfl) (by kernel_rfl) (fun _ _ _ h => h) (Or.inl ⟨by rfl, ?_⟩) hH0 ?_
      rotate_left
      · (intro wz hSz; (try dsimp only at hSz); go_simp; try with_reducible rfl)
      try simp only [Act.put, List.setIfInBounds_toArray, List.set_cons_zero, List.set_cons_succ]
      refine wpAnyH_take (i := 1) (oi := { dst := some 18, op := Go.Op.fieldAddr 112 (Go.Operand.tmp 5) 0, type := 0, pos := "policy.go:292", after := #[], guard := none }) (v := ?_) rfl (by kernel_rfl) (by kernel_rfl) (by kernel_rfl) (fun _ _ _ h => h) (Or.inl ⟨by rfl, ?_⟩) hH0 ?_
      rotate_left
      · (intro wz hSz; (try dsimp only at hSz); go_simp; try with_reducible rfl)
      try simp only [Act.put, List.setIfInBounds_toArray, List.set_cons_zero, List.set_cons_succ]
      refine wpAnyH_take (i := 2) (oi := { dst := some 19, op := Go.Op.load 9 (Go.Operand.tmp 18), type := 9, pos := "policy.go:292", after := #[{ on := 1, ground := Go.Ground.data }], guard := none }) (v := ?_) rfl (by kernel_rfl) (by kernel_rfl) (by kernel_rfl) (fun _ _ _ h => h) (Or.inl ⟨by rfl, ?_⟩) hH0 ?_
      rotate_left
      · (intro wz hSz; (try dsimp only at hSz); go_simp; try with_reducible rfl)
      try simp only [Act.put, List.setIfInBounds_toArray, List.set_cons_zero, List.set_cons_succ]
      refine wpAnyH_take (i := 3) (oi := { dst := some 20, op := Go.Op.fieldAddr 112 (Go.Operand.tmp 5) 1, type := 0, pos := "policy.go:292", after := #[], guard := none }) (v := ?_) rfl (by kernel_rfl) (by kernel_rfl) (by kernel_rfl) (fun _ _ _ h => h) (Or.inl ⟨by rfl, ?_⟩) hH0 ?_
      rotate_left
      · (intro wz hSz; (try dsimp only at hSz); go_simp; try with_reducible rfl)
      try simp only [Act.put, List.setIfInBounds_toArray, List.set_cons_zero, List.set_cons_succ]
      refine wpAnyH_take (i := 4) (oi := { dst := some 21, op := Go.Op.load 110 (Go.Operand.tmp 20), type := 110, pos := "policy.go:292", after := #[{ on := 3, ground := Go.Ground.data }], guard := none }) (v := ?_) rfl (by kernel_rfl) (by kernel_rfl) (by kernel_rfl) (fun _ _ _ h => h) (Or.inl ⟨by rfl, ?_⟩) hH0 ?_
      rotate_left
      · (intro wz hSz; (try dsimp only at hSz); go_simp; try with_reducible rfl)
      try simp only [Act.put, List.setIfInBounds_toArray, List.set_cons_zero, List.set_cons_succ]
      refine wpAnyH_take (i := 5) (oi := { dst := some 22, op := Go.Op.nilCheck (Go.Operand.tmp 21), type := 0, pos := "policy.go:292", after := #[{ on := 4, ground := Go.Ground.data }], guard := none }) (v := ?_) rfl (by kernel_rfl) (by kernel_rfl) (by kernel_rfl) (fun _ _ _ h => h) (Or.inl ⟨by rfl, ?_⟩) hH0 ?_
      rotate_left
      · (intro wz hSz; (try dsimp only at hSz); go_simp; try with_reducible rfl)
      try simp only [Act.put, List.setIfInBounds_toArray, List.set_cons_zero, List.set_cons_succ]
      refine wpAnyH_take (i := 6) (oi := { dst := some 23, op := Go.Op.load 3 (Go.Operand.tmp 22), type := 3, pos := "policy.go:292", after := #[{ on := 5, ground := Go.Ground.data }], guard := none }) (v := ?_) rfl (by kernel_rfl) (by kernel_rfl) (by kernel_rfl) (fun _ _ _ h => h) (Or.inl ⟨by rfl, ?_⟩) hH0 ?_
      rotate_left
      · (intro wz hSz; (try dsimp only at hSz); go_simp; try with_reducible rfl)
      try simp only [Act.put, List.setIfInBounds_toArray, List.set_cons_zero, List.set_cons_succ]
      refine wpAnyH_ready (rs := [7]) (by kernel_rfl) (by simp) ?_
      refine AllReadyH.cons (o := { dst := some 24, op := Go.Op.call { callee := Go.Callee.value (Go.Operand.func 73), args := #[Go.Operand.tmp 23], argTypes := #[3] }, type := 9, pos := "policy.go:292", after := #[{ on := 6, ground := Go.Ground.data }], guard := none }) rfl (fun K hK => ?_) AllReadyH.nil
      go_simp
      with_reducible refine (HD.out.call _ (HT.out.later hH0.2.2.2.k.b)).mono ?_
      rintro r w2 ⟨rfl, hbq⟩
      go_wp2_with fail
      refine hK.out _ _ (HSX.out _ (Cx.below hH0.2.2.2 hbq)) (fun hH1 => ?_)
      have HV2 := Lib.hid (rowB HVA.out hbq)
      clear hK K hbq hH0 HVA
      try simp only [Act.put, List.setIfInBounds_toArray, List.set_cons_zero, List.set_cons_succ]
      refine wpAnyH_ready (rs := [8]) (by kernel_rfl) (by simp) ?_
      refine AllReadyH.cons (o := { dst := some 25, op := Go.Op.buildSlice 60 2 #[(0, Go.Operand.tmp 19), (1, Go.Operand.tmp 24)], type := 60, pos := "policy.go:292", after := #[{ on := 2, ground := Go.Ground.data }, { on := 7, ground := Go.Ground.data }], guard := none }) rfl (fun K hK => ?_) AllReadyH.nil
      go_simp
      refine hK.out _ _ (HSX.out _ (Cx.alloc hH1.2.2.2 _)) (fun hH2 => ?_)
      have hq3 := heap_alloc_new w2 (.cells #[.string xw, .string xd] 9)
      have HV3 := Lib.hid (rowB HV2.out (alloc1 w2 (.cells #[.string xw, .string xd] 9)))
      clear hK K hH1 HV2
      generalize w2.alloc (.cells #[.string xw, .string xd] 9) = W3 at *
      generalize w2.heap.size = gb at *
      have hl3 : LnC W3 gb 2 2 ⟨(Lib.join [kw, dk] [32]).toArray⟩ := ln_words [kw, dk] (two_words (by rw [HXW.out, HXD.out]; exact hq3)) (L.blk_lt hq3) (Nat.le_refl _) (by simp) HJL.out
      obtain ⟨z, hz⟩ : ∃ z : ByteArray, z = ⟨(Lib.join [kw, dk] [32]).toArray⟩ := ⟨_, rfl⟩
      rw [← hz] at hl3
      have HZ := Lib.hid hz
      have HLN := Lib.hid hl3
      clear hl3 hz hq3
      try simp only [Act.put, List.setIfInBounds_toArray, List.set_cons_zero, List.set_cons_succ]
      refine wpAnyH_ready (rs := [9]) (by kernel_rfl) (by simp) ?_
      refine AllReadyH.cons (o := { dst := some 26, op := Go.Op.call { callee := Go.Callee.value (Go.Operand.func 72), args := #[Go.Operand.tmp 25], argTypes := #[60] }, type := 51, pos := "policy.go:292", after := #[{ on := 8, ground := Go.Ground.data }, { on := 7, ground := Go.Ground.chain }], guard := none }) rfl (fun K hK => ?_) AllReadyH.nil
      go_simp
      with_reducible refine (HLN.out.call).mono ?_
      rintro r w4 ⟨rfl, hbq⟩
      go_wp2_with fail
      refine hK.out _ _ (HSX.out _ (Cx.below hH2.2.2.2 hbq)) (fun hH3 => ?_)
      have HV4 := Lib.hid (rowB HV3.out hbq)
      clear hK K hbq hH2 HV3 HLN
      try simp only [Act.put, List.setIfInBounds_toArray, List.set_cons_zero, List.set_cons_succ]
      refine wpAnyH_ready (rs := [10]) (by kernel_rfl) (by simp) ?_
      refine AllReadyH.cons (o := { dst := some 27, op := Go.Op.buildSlice 64 1 #[(0, Go.Operand.tmp 26)], type := 64, pos := "policy.go:292", after := #[{ on := 9, ground := Go.Ground.data }], guard := none }) rfl (fun K hK => ?_) AllReadyH.nil
      go_simp
      refine hK.out _ _ (HSX.out _ (Cx.alloc hH3.2.2.2 _)) (fun hH4 => ?_)
      have HNW := Lib.hid (World.news_of_block (heap_alloc_new w4 (.cells #[.string z, .bool false] 51)))
      have HVB := Lib.hid (rowB HV4.out (alloc1 w4 (.cells #[.string z, .bool false] 51)))
      have H1C : Hid (∀ u ∈ ([.string z, .bool false] : List Value), u.oneCell' = true) := Lib.hid (by intro u hu; simp at hu; rcases hu with rfl | rfl <;> rfl)
      clear hK K hH3 HV4
      generalize w4.alloc (.cells #[.string z, .bool false] 51) = W5 at *
      generalize w4.heap.size = hb5 at *
      have hsz : w.heap.size ≤ W5.heap.size := hH4.2.2.2.k.b.size
      try simp only [Act.put, List.setIfInBounds_toArray, List.set_cons_zero, List.set_cons_succ]
      refine wpAnyH_ready (rs := [11]) (by kernel_rfl) (by simp) ?_
      refine AllReadyH.cons (o := { dst := some 28, op := Go.Op.call { callee := Go.Callee.builtin Go.Builtin.append, args := #[Go.Operand.tmp 17, Go.Operand.tmp 27], argTypes := #[64, 64] }, type := 64, pos := "policy.go:292", after := #[{ on := 0, ground := Go.Ground.data }, { on := 10, ground := Go.Ground.data }, { on := 9, ground := Go.Ground.chain }], guard := none }) rfl (fun K hK => ?_) AllReadyH.nil
      refine step_append_lies _ (by rfl) (.tmp 17) (.tmp 27) 64 (by rfl) w.heap.size 51 i0 _ 2 24 Tryd.underlying64 hi0 hz0 hz1 hz2 rfl (by decide) (.slice vA (k) vcap) (k) (lineCells (ones (numLns [n0, n1, n2, n3, n4, n5] k))) (by rfl) HVB.out ⟨hb5, 0, none⟩ 1 1 [.string z, .bool false] (by rfl) rfl HNW.out H1C.out (by omega) (by unfold maxLen; omega) (by omega) (by omega) _ rfl ?_
      intro g5 cap5 w5 hown5 hg5 hat5 hlt5
      refine hK.out _ _ (HSX.out _ (Cx.grown hH4.2.2.2 (by decide) HVB.out hg5)) (fun hH5 => ?_)
      clear hK K hH4 HVB HNW H1C hsz
      try simp only [Act.put, List.setIfInBounds_toArray, List.set_cons_zero, List.set_cons_succ]
      refine wpAnyH_take (i := 12) (oi := { dst := some 3, op := Go.Op.assign (Go.Operand.tmp 28), type := 64, pos := "policy.go:292", after := #[{ on := 11, ground := Go.Ground.data }, { on := 11, ground := Go.Ground.chain }, { on := 0, ground := Go.Ground.phase }, { on := 1, ground := Go.Ground.phase }, { on := 2, ground := Go.Ground.phase }, { on := 3, ground := Go.Ground.phase }, { on := 4, ground := Go.Ground.phase }, { on := 5, ground := Go.Ground.phase }, { on := 6, ground := Go.Ground.phase }, { on := 7, ground := Go.Ground.phase }, { on := 8, ground := Go.Ground.phase }, { on := 9, ground := Go.Ground.phase }, { on := 10, ground := Go.Ground.phase }, { on := 11, ground := Go.Ground.phase }], guard := none }) (v := ?_) rfl (by kernel_rfl) (by kernel_rfl) (by kernel_rfl) (fun _ _ _ h => h) (Or.inl ⟨by rfl, ?_⟩) hH5 ?_
      rotate_left
      · (intro wz hSz; (try dsimp only at hSz); go_simp; try with_reducible rfl)
      try simp only [Act.put, List.setIfInBounds_toArray, List.set_cons_zero, List.set_cons_succ]
      refine wpAnyH_done (by kernel_rfl) ?_ _
      have HVR : Hid (LRow w w5 (.slice (some ⟨g5, 0, none⟩) (k + 1) cap5) (k + 1) (numLns [n0, n1, n2, n3, n4, n5] (k + 1))) := Lib.hid (by rw [HSN.out, LRow, ones_snoc, ← HZ.out]; exact hown5)
      have HK5 := Lib.hid hH5.2.2.2.k
      clear hown5 hg5 HSN HZ HJL HXW HXD HSX hat5 hlt5 hH5
      go_wp2_with fail
      go_roundg (6 - (k + 1))
      case rel => exact ⟨k + 1, by omega, by go_num, Nat.le_refl _, HVR, HK5⟩
      case measure => omega
    · have hke : k = 6 := by omega
      subst hke
      clear hk hm hk6
      have p6 : wr.cell? ⟨pb, 6, none⟩ = some (.string hid) := L.blk_cell HK.out.p 6
      have HXH := HHL
      go_wp2_with fail
      have HV2 := HV
      have HK2 := HK
      have HJL := Lib.hid (show (Lib.join [kHidden, hl] [32]).length ≤ 140737488355328 by rw [join_two]; simp [kHidden]; omega)
      clear HV HK p6
      go_wp2_with fail
      obtain ⟨W3, hW3⟩ : ∃ W3 : World, W3 = wr.alloc (.cells #[.string ⟨#[104, 105, 100, 100, 101, 110]⟩, .string hid] 9) := ⟨_, rfl⟩
      have hb3 : Below wr.heap.size wr W3 := by rw [hW3]; exact (Below.refl _ _).alloc (Nat.le_refl _) _
      have hq3 : W3.heap[wr.heap.size]? = some (.cells #[.string ⟨#[104, 105, 100, 100, 101, 110]⟩, .string hid] 9 (0, 0)) := by rw [hW3]; exact heap_alloc_new wr _
      have hl3 : LnC W3 wr.heap.size 2 2 ⟨(Lib.join [kHidden, hl] [32]).toArray⟩ := ln_words [kHidden, hl] (two_words (by rw [← HXH.out]; exact hq3)) (L.blk_lt hq3) (Nat.le_refl _) (by simp) HJL.out
      obtain ⟨z, hz⟩ : ∃ z : ByteArray, z = ⟨(Lib.join [kHidden, hl] [32]).toArray⟩ := ⟨_, rfl⟩
      rw [← hz] at hl3
      have HZ := Lib.hid hz
      have HLN := Lib.hid hl3
      have HV3 := Lib.hid (rowB HV2.out hb3)
      have HK3 := Lib.hid (HK2.out.below hb3)
      rw [← hW3]
      clear hW3 hl3 hz hq3 hb3 HV2 HK2
      generalize wr.heap.size = gb at *
      with_reducible refine (HLN.out.call).mono ?_
      rintro e w4 ⟨rfl, hb4⟩
      have HV4 := Lib.hid (rowB HV3.out hb4)
      have HK4 := Lib.hid (HK3.out.below hb4)
      have HB4 := Lib.hid HK4.out.b
      clear hb4 HV3 HK3 HLN
      go_wp2_with (at_builtin; refine wpList_append_own _ rfl (.tmp 30) (.tmp 35) 64 rfl w.heap.size 51 i0 _ 2 24 Tryd.underlying64 hi0 hz0 hz1 hz2 rfl (by decide) _ 6 (lineCells (ones (numLns [n0, n1, n2, n3, n4, n5] 6))) rfl (HV4.out.alloc _) ⟨w4.heap.size, 0, none⟩ 1 1 [.string z, .bool false] rfl rfl ?c1 ?c2 ?c3 ?c4 ?c5 ?_)
      case c1 => exact cell_two_new _ _ _ _
      case c2 => intro u hu; simp at hu; rcases hu with rfl | rfl <;> rfl
      case c3 => simp only [maxLen]; omega
      case c4 => omega
      case c5 => have := HB4.out.size; simp; omega
      intro v5 w5 hown5 hg5 _
      have HK5 := Lib.hid (HK4.out.grown HV4.out hg5)
      obtain ⟨pre, hpre⟩ : ∃ pre, pre = numLns [n0, n1, n2, n3, n4, n5] 6 ++ [Lib.join [kHidden, hl] [32]] := ⟨_, rfl⟩
      have HV5 : Hid (LRow w w5 v5 7 pre) := Lib.hid (by rw [hpre, LRow, ones_snoc, ← HZ.out]; exact hown5)
      have HPOL2 := Lib.hid (show allLns = pre ++ us.map usrLn ++ fs.map flrLn by rw [HPOL.out, hpre])
      obtain ⟨uls, huls⟩ : ∃ uls, uls = us.map usrLn := ⟨_, rfl⟩
      obtain ⟨fls, hfls⟩ : ∃ fls, fls = fs.map flrLn := ⟨_, rfl⟩
      rw [← huls, ← hfls] at HPOL2
      have HULS := Lib.hid huls
      have HFLS := Lib.hid hfls
      clear huls hfls
      have hpl : pre.length = 7 := by rw [hpre]; simp [numLns]
      have HPL := Lib.hid hpl
      clear hown5 hg5 HZ HJL HV4 HB4 HK4 hpre hpl HPOL
      have p7 : w5.cell? ⟨pb, 7, none⟩ = some (.slice uA us.length ucap) := L.blk_cell HK5.out.p 7
      go_wp2_with fail
      go_loopg [3, 40] us.length (fun m v i wx => ∃ j : Nat, j ≤ us.length ∧ i = .int .i64 j ∧ us.length - j ≤ m ∧ Hid (LRow w wx v (7 + j) (pre ++ uls.take j)) ∧ Hid (LnK w pb nb #[.int .i64 n0, .int .i64 n1, .int .i64 n2, .int .i64 n3, .int .i64 n4, .int .i64 n5, .string hid, .slice uA us.length ucap, .slice fA fs.length fcap] wx))
      case atStart => exact ⟨0, by omega, rfl, by omega, Lib.hid (by rw [List.take_zero, List.append_nil]; exact HV5.out), HK5⟩
      case round =>
        clear HK5 HV5 p7
        obtain ⟨j, hj, rfl, hm, HV, HK⟩ := hrel
        by_cases hlt : j < us.length
        · obtain ⟨bk, off, hAe, hbk, hB⟩ := (HU.out.below HK.out.b) (by omega)
          subst hAe
          obtain ⟨c0, c1, c2, c3⟩ := hB j hlt
          have hok := HUS.out _ (List.getElem_mem hlt)
          have HTK := Lib.hid (show uls.take (j + 1) = uls.take j ++ [usrLn us[j]] by rw [HULS.out]; exact take_map_snoc' usrLn us hlt)
          generalize us[j] = u at *
          obtain ⟨un, ul, uc, ua⟩ := u
          simp only at c0 c1 c2 c3 hok
          have hji : (j : Int) < (us.length : Int) := by omega
          have h0j : (0 : Int) ≤ (j : Int) := by omega
          have HPR : Hid (PrC ul uc ⟨(L.print ul uc).toArray⟩) := Lib.hid fun W ht => L.print_any ul uc W hok.2.2.1 hok.2.2.2 hok.1 ht
          have HUP := Lib.hid (usr_plain un ul uc)
          have HUA := Lib.hid (usr_admin un ul uc)
          have hpl := L.print_len ul uc
          generalize L.print ul uc = pl at *
          have HJL := Lib.hid (show (Lib.join [kUser, un, pl] [32]).length ≤ 140737488355328 by rw [join_three]; simp [kUser]; omega)
          have HJ4 := Lib.hid (show (Lib.join [kUser, un, pl, kAdmin] [32]).length ≤ 140737488355328 by rw [join_four]; simp [kUser, kAdmin]; omega)
          generalize hxw : (⟨un.toArray⟩ : ByteArray) = xw at *
          generalize hxd : (⟨pl.toArray⟩ : ByteArray) = xd at *
          have HXW := Lib.hid hxw
          have HXD := Lib.hid hxd
          clear hok hpl hB hxw hxd
          obtain ⟨vA, vcap, hvv, -, -⟩ := own_form HV.out
          subst hvv
          cases ua with
          | false =>
            obtain ⟨W1, hW1⟩ : ∃ W1 : World, W1 = wr.alloc (.cells #[.string xw, .int .i64 ul, .int .u64 (uc : Int), .bool false] 72) := ⟨_, rfl⟩
            have hb1 : Below wr.heap.size wr W1 := by rw [hW1]; exact (Below.refl _ _).alloc (Nat.le_refl _) _
            have hq1 : W1.heap[wr.heap.size]? = some (.cells #[.string xw, .int .i64 ul, .int .u64 (uc : Int), .bool false] 72 (0, 0)) := by rw [hW1]; exact heap_alloc_new wr _
            have HV1 := Lib.hid (rowB HV.out hb1)
            have HCX : Hid (Cx w pb nb #[.int .i64 n0, .int .i64 n1, .int .i64 n2, .int .i64 n3, .int .i64 n4, .int .i64 n5, .string hid, .slice (some ⟨bk, off, none⟩) us.length ucap, .slice fA fs.length fcap] wr.heap.size #[.string xw, .int .i64 ul, .int .u64 (uc : Int), .bool false] 72 W1) := Lib.hid ⟨HK.out.below hb1, hq1⟩
            clear HV HK hb1 hq1
            go_wp2_with fail
            rw [← hW1]
            clear hW1 c0 c1 c2 c3
            generalize wr.heap.size = xb at *
            have HSX : Hid (∀ wz, Cx w pb nb #[.int .i64 n0, .int .i64 n1, .int .i64 n2, .int .i64 n3, .int .i64 n4, .int .i64 n5, .string hid, .slice (some ⟨bk, off, none⟩) us.length ucap, .slice fA fs.length fcap] xb #[.string xw, .int .i64 ul, .int .u64 (uc : Int), .bool false] 72 wz → wz.cell? ⟨xb, 0, none⟩ = some (.string xw) ∧ wz.cell? ⟨xb, 1, none⟩ = some (.int .i64 ul) ∧ wz.cell? ⟨xb, 2, none⟩ = some (.int .u64 (uc : Int)) ∧ Cx w pb nb #[.int .i64 n0, .int .i64 n1, .int .i64 n2, .int .i64 n3, .int .i64 n4, .int .i64 n5, .string hid, .slice (some ⟨bk, off, none⟩) us.length ucap, .slice fA fs.length fcap] xb #[.string xw, .int .i64 ul, .int .u64 (uc : Int), .bool false] 72 wz) := Lib.hid (fun wz h => ⟨L.blk_cell h.x 0, L.blk_cell h.x 1, L.blk_cell h.x 2, h⟩)
            refine wp_region_held_drew (S := fun wz => wz.cell? ⟨xb, 0, none⟩ = some (.string xw) ∧ wz.cell? ⟨xb, 1, none⟩ = some (.int .i64 ul) ∧ wz.cell? ⟨xb, 2, none⟩ = some (.int .u64 (uc : Int)) ∧ Cx w pb nb #[.int .i64 n0, .int .i64 n1, .int .i64 n2, .int .i64 n3, .int .i64 n4, .int .i64 n5, .string hid, .slice (some ⟨bk, off, none⟩) us.length ucap, .slice fA fs.length fcap] xb #[.string xw, .int .i64 ul, .int .u64 (uc : Int), .bool false] 72 wz) (by kernel_rfl) (HSX.out _ (HCX.out.below (drew_below W1))) (fun hH0 => ?_)
            have HVA := Lib.hid (rowB HV1.out (drew_below W1))
            clear HCX HV1
            generalize W1.drew = wA at *
            refine wpAnyH_take (i := 0) (oi := { dst := some 44, op := Go.Op.fieldAddr 72 (Go.Operand.tmp 7) 0, type := 0, pos := "policy.go:296", after := #[], guard := none }) (v := ?_) rfl (by kernel_rfl) (by kernel_rfl) (by kernel_rfl) (fun _ _ _ h => h) (Or.inl ⟨by rfl, ?_⟩) hH0 ?_
            rotate_left
            · (intro wz hSz; (try dsimp only at hSz); go_simp; try with_reducible rfl)
            try simp only [Act.put, List.setIfInBounds_toArray, List.set_cons_zero, List.set_cons_succ]
            refine wpAnyH_take (i := 1) (oi := { dst := some 45, op := Go.Op.load 9 (Go.Operand.tmp 44), type := 9, pos := "policy.go:296", after := #[{ on := 0, ground := Go.Ground.data }], guard := none }) (v := ?_) rfl (by kernel_rfl) (by kernel_rfl) (by kernel_rfl) (fun _ _ _ h => h) (Or.inl ⟨by rfl, ?_⟩) hH0 ?_
            rotate_left
            · (intro wz hSz; (try dsimp only at hSz); go_simp; try with_reducible rfl)
            try simp only [Act.put, List.setIfInBounds_toArray, List.set_cons_zero, List.set_cons_succ]
            refine wpAnyH_take (i := 2) (oi := { dst := some 46, op := Go.Op.fieldAddr 72 (Go.Operand.tmp 7) 1, type := 0, pos := "policy.go:296", after := #[], guard := none }) (v := ?_) rfl (by kernel_rfl) (by kernel_rfl) (by kernel_rfl) (fun _ _ _ h => h) (Or.inl ⟨by rfl, ?_⟩) hH0 ?_
            rotate_left
            · (intro wz hSz; (try dsimp only at hSz); go_simp; try with_reducible rfl)
            try simp only [Act.put, List.setIfInBounds_toArray, List.set_cons_zero, List.set_cons_succ]
            refine wpAnyH_take (i := 3) (oi := { dst := some 47, op := Go.Op.load 40 (Go.Operand.tmp 46), type := 40, pos := "policy.go:296", after := #[{ on := 2, ground := Go.Ground.data }], guard := none }) (v := ?_) rfl (by kernel_rfl) (by kernel_rfl) (by kernel_rfl) (fun _ _ _ h => h) (Or.inl ⟨by rfl, ?_⟩) hH0 ?_
            rotate_left
            · (intro wz hSz; (try dsimp only at hSz); go_simp; try with_reducible rfl)
            try simp only [Act.put, List.setIfInBounds_toArray, List.set_cons_zero, List.set_cons_succ]
            refine wpAnyH_ready (rs := [4]) (by kernel_rfl) (by simp) ?_
            refine AllReadyH.cons (o := { dst := some 48, op := Go.Op.call { callee := Go.Callee.value (Go.Operand.func 74), args := #[Go.Operand.tmp 47], argTypes := #[40] }, type := 9, pos := "policy.go:296", after := #[{ on := 3, ground := Go.Ground.data }], guard := none }) rfl (fun K hK => ?_) AllReadyH.nil
            go_simp
            with_reducible refine (HPR.out.call _ (HT.out.later hH0.2.2.2.k.b)).mono ?_
            rintro r w2 ⟨rfl, hbq⟩
            go_wp2_with fail
            refine hK.out _ _ (HSX.out _ (Cx.below hH0.2.2.2 hbq)) (fun hH1 => ?_)
            have HV2 := Lib.hid (rowB HVA.out hbq)
            clear hK K hbq hH0 HVA HPR
            try simp only [Act.put, List.setIfInBounds_toArray, List.set_cons_zero, List.set_cons_succ]
            refine wpAnyH_ready (rs := [5]) (by kernel_rfl) (by simp) ?_
            refine AllReadyH.cons (o := { dst := some 49, op := Go.Op.buildSlice 60 3 #[(0, Go.Operand.const (Go.Value.string { data := #[117, 115, 101, 114] })), (1, Go.Operand.tmp 45), (2, Go.Operand.tmp 48)], type := 60, pos := "policy.go:296", after := #[{ on := 1, ground := Go.Ground.data }, { on := 4, ground := Go.Ground.data }], guard := none }) rfl (fun K hK => ?_) AllReadyH.nil
            go_simp
            refine hK.out _ _ (HSX.out _ (Cx.alloc hH1.2.2.2 _)) (fun hH2 => ?_)
            have hq3 := heap_alloc_new w2 (.cells #[.string ⟨#[117, 115, 101, 114]⟩, .string xw, .string xd] 9)
            have HV3 := Lib.hid (rowB HV2.out (alloc1 w2 (.cells #[.string ⟨#[117, 115, 101, 114]⟩, .string xw, .string xd] 9)))
            have hgb : w.heap.size ≤ w2.heap.size := hH1.2.2.2.k.b.size
            clear hK K hH1 HV2
            generalize w2.alloc (.cells #[.string ⟨#[117, 115, 101, 114]⟩, .string xw, .string xd] 9) = W3 at *
            generalize w2.heap.size = gb at *
            try simp only [Act.put, List.setIfInBounds_toArray, List.set_cons_zero, List.set_cons_succ]
            refine wpAnyH_take (i := 6) (oi := { dst := some 8, op := Go.Op.assign (Go.Operand.tmp 49), type := 60, pos := "policy.go:296", after := #[{ on := 5, ground := Go.Ground.data }, { on := 4, ground := Go.Ground.chain }, { on := 0, ground := Go.Ground.phase }, { on := 1, ground := Go.Ground.phase }, { on := 2, ground := Go.Ground.phase }, { on := 3, ground := Go.Ground.phase }, { on := 4, ground := Go.Ground.phase }, { on := 5, ground := Go.Ground.phase }], guard := none }) (v := ?_) rfl (by kernel_rfl) (by kernel_rfl) (by kernel_rfl) (fun _ _ _ h => h) (Or.inl ⟨by rfl, ?_⟩) hH2 ?_
            rotate_left
            · (intro wz hSz; (try dsimp only at hSz); go_simp; try with_reducible rfl)
            try simp only [Act.put, List.setIfInBounds_toArray, List.set_cons_zero, List.set_cons_succ]
            refine wpAnyH_done (by kernel_rfl) ?_ _
            have hH3 := hH2
            clear hH2
            have HK3 := Lib.hid hH3.2.2.2.k
            have e3 : W3.cell? ⟨xb, 3, none⟩ = some (.bool false) := L.blk_cell hH3.2.2.2.x 3
            clear hH3 HSX
            have hl3 : LnC W3 gb 3 3 ⟨(Lib.join [kUser, un, pl] [32]).toArray⟩ := ln_words [kUser, un, pl] (three_words (by rw [HXW.out, HXD.out]; exact hq3)) (L.blk_lt hq3) (Nat.le_refl _) (by simp) HJL.out
            obtain ⟨z, hz⟩ : ∃ z : ByteArray, z = ⟨(Lib.join [kUser, un, pl] [32]).toArray⟩ := ⟨_, rfl⟩
            rw [← hz] at hl3
            have HZ := Lib.hid hz
            have HLN := Lib.hid hl3
            clear hl3 hz hq3
            go_wp2_with fail
            clear e3 hgb
            with_reducible refine (HLN.out.call).mono ?_
            rintro e w4 ⟨rfl, hb4⟩
            have HV4 := Lib.hid (rowB HV3.out hb4)
            have HK4 := Lib.hid (HK3.out.below hb4)
            have HB4 := Lib.hid HK4.out.b
            clear hb4 HV3 HK3 HLN
            go_wp2_with (at_builtin; refine wpList_append_own _ rfl (.tmp 55) (.tmp 58) 64 rfl w.heap.size 51 i0 _ 2 24 Tryd.underlying64 hi0 hz0 hz1 hz2 rfl (by decide) _ (7 + j) (lineCells (ones (pre ++ uls.take j))) rfl (HV4.out.alloc _) ⟨w4.heap.size, 0, none⟩ 1 1 [.string z, .bool false] rfl rfl ?c1 ?c2 ?c3 ?c4 ?c5 ?_)
            case c1 => exact cell_two_new _ _ _ _
            case c2 => intro u hu; simp at hu; rcases hu with rfl | rfl <;> rfl
            case c3 => simp only [maxLen]; omega
            case c4 => omega
            case c5 => have := HB4.out.size; simp; omega
            intro v5 w5 hown5 hg5 _
            have HK5 := Lib.hid (HK4.out.grown HV4.out hg5)
            have HVR : Hid (LRow w w5 v5 (7 + (j + 1)) (pre ++ uls.take (j + 1))) := Lib.hid (by rw [HTK.out, ← List.append_assoc, LRow, ones_snoc, HUP.out, ← HZ.out]; exact hown5)
            clear hown5 hg5 HV4 HB4 HK4 HTK HZ HUP HUA HJL HJ4 HXW HXD
            go_wp2_with fail
            go_roundg (us.length - (j + 1))
            case rel => exact ⟨j + 1, by omega, by go_num, Nat.le_refl _, HVR, HK5⟩
            case measure => omega
          | true =>
            obtain ⟨W1, hW1⟩ : ∃ W1 : World, W1 = wr.alloc (.cells #[.string xw, .int .i64 ul, .int .u64 (uc : Int), .bool true] 72) := ⟨_, rfl⟩
            have hb1 : Below wr.heap.size wr W1 := by rw [hW1]; exact (Below.refl _ _).alloc (Nat.le_refl _) _
            have hq1 : W1.heap[wr.heap.size]? = some (.cells #[.string xw, .int .i64 ul, .int .u64 (uc : Int), .bool true] 72 (0, 0)) := by rw [hW1]; exact heap_alloc_new wr _
            have HV1 := Lib.hid (rowB HV.out hb1)
            have HCX : Hid (Cx w pb nb #[.int .i64 n0, .int .i64 n1, .int .i64 n2, .int .i64 n3, .int .i64 n4, .int .i64 n5, .string hid, .slice (some ⟨bk, off, none⟩) us.length ucap, .slice fA fs.length fcap] wr.heap.size #[.string xw, .int .i64 ul, .int .u64 (uc : Int), .bool true] 72 W1) := Lib.hid ⟨HK.out.below hb1, hq1⟩
            clear HV HK hb1 hq1
            go_wp2_with fail
            rw [← hW1]
            clear hW1 c0 c1 c2 c3
            generalize wr.heap.size = xb at *
            have HSX : Hid (∀ wz, Cx w pb nb #[.int .i64 n0, .int .i64 n1, .int .i64 n2, .int .i64 n3, .int .i64 n4, .int .i64 n5, .string hid, .slice (some ⟨bk, off, none⟩) us.length ucap, .slice fA fs.length fcap] xb #[.string xw, .int .i64 ul, .int .u64 (uc : Int), .bool true] 72 wz → wz.cell? ⟨xb, 0, none⟩ = some (.string xw) ∧ wz.cell? ⟨xb, 1, none⟩ = some (.int .i64 ul) ∧ wz.cell? ⟨xb, 2, none⟩ = some (.int .u64 (uc : Int)) ∧ Cx w pb nb #[.int .i64 n0, .int .i64 n1, .int .i64 n2, .int .i64 n3, .int .i64 n4, .int .i64 n5, .string hid, .slice (some ⟨bk, off, none⟩) us.length ucap, .slice fA fs.length fcap] xb #[.string xw, .int .i64 ul, .int .u64 (uc : Int), .bool true] 72 wz) := Lib.hid (fun wz h => ⟨L.blk_cell h.x 0, L.blk_cell h.x 1, L.blk_cell h.x 2, h⟩)
            refine wp_region_held_drew (S := fun wz => wz.cell? ⟨xb, 0, none⟩ = some (.string xw) ∧ wz.cell? ⟨xb, 1, none⟩ = some (.int .i64 ul) ∧ wz.cell? ⟨xb, 2, none⟩ = some (.int .u64 (uc : Int)) ∧ Cx w pb nb #[.int .i64 n0, .int .i64 n1, .int .i64 n2, .int .i64 n3, .int .i64 n4, .int .i64 n5, .string hid, .slice (some ⟨bk, off, none⟩) us.length ucap, .slice fA fs.length fcap] xb #[.string xw, .int .i64 ul, .int .u64 (uc : Int), .bool true] 72 wz) (by kernel_rfl) (HSX.out _ (HCX.out.below (drew_below W1))) (fun hH0 => ?_)
            have HVA := Lib.hid (rowB HV1.out (drew_below W1))
            clear HCX HV1
            generalize W1.drew = wA at *
            refine wpAnyH_take (i := 0) (oi := { dst := some 44, op := Go.Op.fieldAddr 72 (Go.Operand.tmp 7) 0, type := 0, pos := "policy.go:296", after := #[], guard := none }) (v := ?_) rfl (by kernel_rfl) (by kernel_rfl) (by kernel_rfl) (fun _ _ _ h => h) (Or.inl ⟨by rfl, ?_⟩) hH0 ?_
            rotate_left
            · (intro wz hSz; (try dsimp only at hSz); go_simp; try with_reducible rfl)
            try simp only [Act.put, List.setIfInBounds_toArray, List.set_cons_zero, List.set_cons_succ]
            refine wpAnyH_take (i := 1) (oi := { dst := some 45, op := Go.Op.load 9 (Go.Operand.tmp 44), type := 9, pos := "policy.go:296", after := #[{ on := 0, ground := Go.Ground.data }], guard := none }) (v := ?_) rfl (by kernel_rfl) (by kernel_rfl) (by kernel_rfl) (fun _ _ _ h => h) (Or.inl ⟨by rfl, ?_⟩) hH0 ?_
            rotate_left
            · (intro wz hSz; (try dsimp only at hSz); go_simp; try with_reducible rfl)
            try simp only [Act.put, List.setIfInBounds_toArray, List.set_cons_zero, List.set_cons_succ]
            refine wpAnyH_take (i := 2) (oi := { dst := some 46, op := Go.Op.fieldAddr 72 (Go.Operand.tmp 7) 1, type := 0, pos := "policy.go:296", after := #[], guard := none }) (v := ?_) rfl (by kernel_rfl) (by kernel_rfl) (by kernel_rfl) (fun _ _ _ h => h) (Or.inl ⟨by rfl, ?_⟩) hH0 ?_
            rotate_left
            · (intro wz hSz; (try dsimp only at hSz); go_simp; try with_reducible rfl)
            try simp only [Act.put, List.setIfInBounds_toArray, List.set_cons_zero, List.set_cons_succ]
            refine wpAnyH_take (i := 3) (oi := { dst := some 47, op := Go.Op.load 40 (Go.Operand.tmp 46), type := 40, pos := "policy.go:296", after := #[{ on := 2, ground := Go.Ground.data }], guard := none }) (v := ?_) rfl (by kernel_rfl) (by kernel_rfl) (by kernel_rfl) (fun _ _ _ h => h) (Or.inl ⟨by rfl, ?_⟩) hH0 ?_
            rotate_left
            · (intro wz hSz; (try dsimp only at hSz); go_simp; try with_reducible rfl)
            try simp only [Act.put, List.setIfInBounds_toArray, List.set_cons_zero, List.set_cons_succ]
            refine wpAnyH_ready (rs := [4]) (by kernel_rfl) (by simp) ?_
            refine AllReadyH.cons (o := { dst := some 48, op := Go.Op.call { callee := Go.Callee.value (Go.Operand.func 74), args := #[Go.Operand.tmp 47], argTypes := #[40] }, type := 9, pos := "policy.go:296", after := #[{ on := 3, ground := Go.Ground.data }], guard := none }) rfl (fun K hK => ?_) AllReadyH.nil
            go_simp
            with_reducible refine (HPR.out.call _ (HT.out.later hH0.2.2.2.k.b)).mono ?_
            rintro r w2 ⟨rfl, hbq⟩
            go_wp2_with fail
            refine hK.out _ _ (HSX.out _ (Cx.below hH0.2.2.2 hbq)) (fun hH1 => ?_)
            have HV2 := Lib.hid (rowB HVA.out hbq)
            clear hK K hbq hH0 HVA HPR
            try simp only [Act.put, List.setIfInBounds_toArray, List.set_cons_zero, List.set_cons_succ]
            refine wpAnyH_ready (rs := [5]) (by kernel_rfl) (by simp) ?_
            refine AllReadyH.cons (o := { dst := some 49, op := Go.Op.buildSlice 60 3 #[(0, Go.Operand.const (Go.Value.string { data := #[117, 115, 101, 114] })), (1, Go.Operand.tmp 45), (2, Go.Operand.tmp 48)], type := 60, pos := "policy.go:296", after := #[{ on := 1, ground := Go.Ground.data }, { on := 4, ground := Go.Ground.data }], guard := none }) rfl (fun K hK => ?_) AllReadyH.nil
            go_simp
            refine hK.out _ _ (HSX.out _ (Cx.alloc hH1.2.2.2 _)) (fun hH2 => ?_)
            have hq3 := heap_alloc_new w2 (.cells #[.string ⟨#[117, 115, 101, 114]⟩, .string xw, .string xd] 9)
            have HV3 := Lib.hid (rowB HV2.out (alloc1 w2 (.cells #[.string ⟨#[117, 115, 101, 114]⟩, .string xw, .string xd] 9)))
            have hgb : w.heap.size ≤ w2.heap.size := hH1.2.2.2.k.b.size
            clear hK K hH1 HV2
            generalize w2.alloc (.cells #[.string ⟨#[117, 115, 101, 114]⟩, .string xw, .string xd] 9) = W3 at *
            generalize w2.heap.size = gb at *
            try simp only [Act.put, List.setIfInBounds_toArray, List.set_cons_zero, List.set_cons_succ]
            refine wpAnyH_take (i := 6) (oi := { dst := some 8, op := Go.Op.assign (Go.Operand.tmp 49), type := 60, pos := "policy.go:296", after := #[{ on := 5, ground := Go.Ground.data }, { on := 4, ground := Go.Ground.chain }, { on := 0, ground := Go.Ground.phase }, { on := 1, ground := Go.Ground.phase }, { on := 2, ground := Go.Ground.phase }, { on := 3, ground := Go.Ground.phase }, { on := 4, ground := Go.Ground.phase }, { on := 5, ground := Go.Ground.phase }], guard := none }) (v := ?_) rfl (by kernel_rfl) (by kernel_rfl) (by kernel_rfl) (fun _ _ _ h => h) (Or.inl ⟨by rfl, ?_⟩) hH2 ?_
            rotate_left
            · (intro wz hSz; (try dsimp only at hSz); go_simp; try with_reducible rfl)
            try simp only [Act.put, List.setIfInBounds_toArray, List.set_cons_zero, List.set_cons_succ]
            refine wpAnyH_done (by kernel_rfl) ?_ _
            have hH3 := hH2
            clear hH2
            have HK3 := Lib.hid hH3.2.2.2.k
            have e3 : W3.cell? ⟨xb, 3, none⟩ = some (.bool true) := L.blk_cell hH3.2.2.2.x 3
            clear hH3 HSX
            have HQ3 := Lib.hid hq3
            have HOW : Hid (W3.ownsRow w.heap.size 9 1 (.slice (some ⟨gb, 0, none⟩) 3 3) 3 [.string ⟨#[117, 115, 101, 114]⟩, .string xw, .string xd]) := Lib.hid ⟨by simp, .inr ⟨gb, 3, #[.string ⟨#[117, 115, 101, 114]⟩, .string xw, .string xd], rfl, hgb, hq3, Nat.le_refl _, by simp [maxLen], rfl, rfl⟩⟩
            have hsz3 : w.heap.size ≤ W3.heap.size := HK3.out.b.size
            have HGB := Lib.hid hgb
            clear hq3 hgb
            go_wp2_with (at_builtin; refine wpList_append_own _ rfl (.tmp 52) (.tmp 53) 60 rfl w.heap.size 9 i1 _ 1 16 Tryd.underlying60 hi1 hy0 hy1 hy2 rfl (by decide) _ 3 [.string ⟨#[117, 115, 101, 114]⟩, .string xw, .string xd] rfl (HOW.out.alloc _) ⟨W3.heap.size, 0, none⟩ 1 1 [.string ⟨#[97, 100, 109, 105, 110]⟩] rfl rfl ?c1 ?c2 ?c3 ?c4 ?c5 ?_)
            case c1 => exact cell_one_new _ _ _
            case c2 => intro u hu; simp at hu; subst hu; rfl
            case c3 => simp only [maxLen]; omega
            case c4 => omega
            case c5 => simp; omega
            intro v6 w6 hown6 hg6 _
            have HV6 := Lib.hid (row_far HV3.out HQ3.out hg6)
            have HK6 := Lib.hid (HK3.out.far HQ3.out HGB.out hg6)
            obtain ⟨A6, cap6, hv6, hc6, hcc6⟩ := own_form hown6
            obtain ⟨g6, hA6, -, hg6l, hcells6⟩ := hcc6 (by omega)
            subst hv6 hA6
            have hl3 : LnC w6 g6 4 cap6 ⟨(Lib.join [kUser, un, pl, kAdmin] [32]).toArray⟩ := ln_words [kUser, un, pl, kAdmin] (four_words (by rw [HXW.out, HXD.out]; exact hcells6)) hg6l hc6 (by simp) HJ4.out
            obtain ⟨z, hz⟩ : ∃ z : ByteArray, z = ⟨(Lib.join [kUser, un, pl, kAdmin] [32]).toArray⟩ := ⟨_, rfl⟩
            rw [← hz] at hl3
            have HZ := Lib.hid hz
            have HLN := Lib.hid hl3
            clear hl3 hz hown6 hg6 hcells6 hcc6 hg6l HOW HQ3 HGB HV3 HK3 e3 hsz3
            go_wp2_with fail
            with_reducible refine (HLN.out.call).mono ?_
            rintro e w4 ⟨rfl, hb4⟩
            have HV4 := Lib.hid (rowB HV6.out hb4)
            have HK4 := Lib.hid (HK6.out.below hb4)
            have HB4 := Lib.hid HK4.out.b
            clear hb4 HV6 HK6 HLN
            go_wp2_with (at_builtin; refine wpList_append_own _ rfl (.tmp 55) (.tmp 58) 64 rfl w.heap.size 51 i0 _ 2 24 Tryd.underlying64 hi0 hz0 hz1 hz2 rfl (by decide) _ (7 + j) (lineCells (ones (pre ++ uls.take j))) rfl (HV4.out.alloc _) ⟨w4.heap.size, 0, none⟩ 1 1 [.string z, .bool false] rfl rfl ?c1 ?c2 ?c3 ?c4 ?c5 ?_)
            case c1 => exact cell_two_new _ _ _ _
            case c2 => intro u hu; simp at hu; rcases hu with rfl | rfl <;> rfl
            case c3 => simp only [maxLen]; omega
            case c4 => omega
            case c5 => have := HB4.out.size; simp; omega
            intro v5 w5 hown5 hg5 _
            have HK5 := Lib.hid (HK4.out.grown HV4.out hg5)
            have HVR : Hid (LRow w w5 v5 (7 + (j + 1)) (pre ++ uls.take (j + 1))) := Lib.hid (by rw [HTK.out, ← List.append_assoc, LRow, ones_snoc, HUA.out, ← HZ.out]; exact hown5)
            clear hown5 hg5 HV4 HB4 HK4 HTK HZ HUP HUA HJL HJ4 HXW HXD
            go_wp2_with fail
            go_roundg (us.length - (j + 1))
            case rel => exact ⟨j + 1, by omega, by go_num, Nat.le_refl _, HVR, HK5⟩
            case measure => omega
        · have hje : j = us.length := by omega
          subst hje
          have HVF := Lib.hid (show LRow w wr _ (7 + us.length) (pre ++ uls) by have := HV.out; rw [List.take_of_length_le (by rw [HULS.out, List.length_map]; exact Nat.le_refl _)] at this; exact this)
          have HKF := HK
          have p8 : wr.cell? ⟨pb, 8, none⟩ = some (.slice fA fs.length fcap) := L.blk_cell HK.out.p 8
          obtain ⟨mid, hmid⟩ : ∃ mid, mid = pre ++ uls := ⟨_, rfl⟩
          obtain ⟨qn, hqn⟩ : ∃ qn, qn = 7 + us.length := ⟨_, rfl⟩
          rw [← hmid, ← hqn] at HVF
          have HALL := Lib.hid (show allLns = mid ++ fls by rw [hmid]; exact HPOL2.out)
          have HLEN := Lib.hid (show allLns.length = qn + fs.length by rw [HALL.out, List.length_append, hmid, List.length_append, HPL.out, HULS.out, HFLS.out, List.length_map, List.length_map, hqn])
          have hq39 : qn ≤ 39 := by omega
          rw [← hqn] at *
          clear HV HK hj hm hlt hmid hqn HPOL2 HPL
          go_wp2_with fail
          go_loopg [3, 64] fs.length (fun m v i wx => ∃ j : Nat, j ≤ fs.length ∧ i = .int .i64 j ∧ fs.length - j ≤ m ∧ Hid (LRow w wx v (qn + j) (mid ++ fls.take j)) ∧ Hid (LnK w pb nb #[.int .i64 n0, .int .i64 n1, .int .i64 n2, .int .i64 n3, .int .i64 n4, .int .i64 n5, .string hid, .slice uA us.length ucap, .slice fA fs.length fcap] wx))
          case atStart => exact ⟨0, by omega, rfl, by omega, Lib.hid (by rw [List.take_zero, List.append_nil]; exact HVF.out), HKF⟩
          case round =>
            clear HKF HVF p8
            obtain ⟨j, hj, rfl, hm, HV, HK⟩ := hrel
            by_cases hlt : j < fs.length
            · obtain ⟨bk, off, hAe, hbk, hB⟩ := (HF.out.below HK.out.b) (by omega)
              subst hAe
              obtain ⟨c0, c1, c2⟩ := hB j hlt
              have hok := HFS.out _ (List.getElem_mem hlt)
              have HTK := Lib.hid (show fls.take (j + 1) = fls.take j ++ [flrLn fs[j]] by rw [HFLS.out]; exact take_map_snoc' flrLn fs hlt)
              generalize fs[j] = u at *
              obtain ⟨un, ul, uc⟩ := u
              simp only at c0 c1 c2 hok
              have hji : (j : Int) < (fs.length : Int) := by omega
              have h0j : (0 : Int) ≤ (j : Int) := by omega
              have HPR : Hid (PrC ul uc ⟨(L.print ul uc).toArray⟩) := Lib.hid fun W ht => L.print_any ul uc W hok.2.2.1 hok.2.2.2 hok.1 ht
              have HUP := Lib.hid (flr_plain un ul uc)
              have hpl := L.print_len ul uc
              generalize L.print ul uc = pl at *
              have HJL := Lib.hid (show (Lib.join [kFloor, un, pl] [32]).length ≤ 140737488355328 by rw [join_three]; simp [kFloor]; omega)
              generalize hxw : (⟨un.toArray⟩ : ByteArray) = xw at *
              generalize hxd : (⟨pl.toArray⟩ : ByteArray) = xd at *
              have HXW := Lib.hid hxw
              have HXD := Lib.hid hxd
              clear hok hpl hB hxw hxd
              obtain ⟨vA, vcap, hvv, -, -⟩ := own_form HV.out
              subst hvv
              obtain ⟨W1, hW1⟩ : ∃ W1 : World, W1 = wr.alloc (.cells #[.string xw, .int .i64 ul, .int .u64 (uc : Int)] 76) := ⟨_, rfl⟩
              have hb1 : Below wr.heap.size wr W1 := by rw [hW1]; exact (Below.refl _ _).alloc (Nat.le_refl _) _
              have hq1 : W1.heap[wr.heap.size]? = some (.cells #[.string xw, .int .i64 ul, .int .u64 (uc : Int)] 76 (0, 0)) := by rw [hW1]; exact heap_alloc_new wr _
              have HV1 := Lib.hid (rowB HV.out hb1)
              have HCX : Hid (Cx w pb nb #[.int .i64 n0, .int .i64 n1, .int .i64 n2, .int .i64 n3, .int .i64 n4, .int .i64 n5, .string hid, .slice uA us.length ucap, .slice (some ⟨bk, off, none⟩) fs.length fcap] wr.heap.size #[.string xw, .int .i64 ul, .int .u64 (uc : Int)] 76 W1) := Lib.hid ⟨HK.out.below hb1, hq1⟩
              clear HV HK hb1 hq1
              go_wp2_with fail
              rw [← hW1]
              clear hW1 c0 c1 c2
              generalize wr.heap.size = xb at *
              have HSX : Hid (∀ wz, Cx w pb nb #[.int .i64 n0, .int .i64 n1, .int .i64 n2, .int .i64 n3, .int .i64 n4, .int .i64 n5, .string hid, .slice uA us.length ucap, .slice (some ⟨bk, off, none⟩) fs.length fcap] xb #[.string xw, .int .i64 ul, .int .u64 (uc : Int)] 76 wz → wz.cell? ⟨xb, 0, none⟩ = some (.string xw) ∧ wz.cell? ⟨xb, 1, none⟩ = some (.int .i64 ul) ∧ wz.cell? ⟨xb, 2, none⟩ = some (.int .u64 (uc : Int)) ∧ Cx w pb nb #[.int .i64 n0, .int .i64 n1, .int .i64 n2, .int .i64 n3, .int .i64 n4, .int .i64 n5, .string hid, .slice uA us.length ucap, .slice (some ⟨bk, off, none⟩) fs.length fcap] xb #[.string xw, .int .i64 ul, .int .u64 (uc : Int)] 76 wz) := Lib.hid (fun wz h => ⟨L.blk_cell h.x 0, L.blk_cell h.x 1, L.blk_cell h.x 2, h⟩)
              refine wp_region_held_drew (S := fun wz => wz.cell? ⟨xb, 0, none⟩ = some (.string xw) ∧ wz.cell? ⟨xb, 1, none⟩ = some (.int .i64 ul) ∧ wz.cell? ⟨xb, 2, none⟩ = some (.int .u64 (uc : Int)) ∧ Cx w pb nb #[.int .i64 n0, .int .i64 n1, .int .i64 n2, .int .i64 n3, .int .i64 n4, .int .i64 n5, .string hid, .slice uA us.length ucap, .slice (some ⟨bk, off, none⟩) fs.length fcap] xb #[.string xw, .int .i64 ul, .int .u64 (uc : Int)] 76 wz) (by kernel_rfl) (HSX.out _ (HCX.out.below (drew_below W1))) (fun hH0 => ?_)
              have HVA := Lib.hid (rowB HV1.out (drew_below W1))
              clear HCX HV1
              generalize W1.drew = wA at *
              refine wpAnyH_take (i := 0) (oi := { dst := some 68, op := Go.Op.move (Go.Operand.tmp 3), type := 64, pos := "policy.go:303", after := #[], guard := none }) (v := ?_) rfl (by kernel_rfl) (by kernel_rfl) (by kernel_rfl) (fun _ _ _ h => h) (Or.inl ⟨by rfl, ?_⟩) hH0 ?_
              rotate_left
              · (intro wz hSz; (try dsimp only at hSz); go_simp; try with_reducible rfl)
              try simp only [Act.put, List.setIfInBounds_toArray, List.set_cons_zero, List.set_cons_succ]
              refine wpAnyH_take (i := 1) (oi := { dst := some 69, op := Go.Op.fieldAddr 76 (Go.Operand.tmp 10) 0, type := 0, pos := "policy.go:303", after := #[], guard := none }) (v := ?_) rfl (by kernel_rfl) (by kernel_rfl) (by kernel_rfl) (fun _ _ _ h => h) (Or.inl ⟨by rfl, ?_⟩) hH0 ?_
              rotate_left
              · (intro wz hSz; (try dsimp only at hSz); go_simp; try with_reducible rfl)
              try simp only [Act.put, List.setIfInBounds_toArray, List.set_cons_zero, List.set_cons_succ]
              refine wpAnyH_take (i := 2) (oi := { dst := some 70, op := Go.Op.load 9 (Go.Operand.tmp 69), type := 9, pos := "policy.go:303", after := #[{ on := 1, ground := Go.Ground.data }], guard := none }) (v := ?_) rfl (by kernel_rfl) (by kernel_rfl) (by kernel_rfl) (fun _ _ _ h => h) (Or.inl ⟨by rfl, ?_⟩) hH0 ?_
              rotate_left
              · (intro wz hSz; (try dsimp only at hSz); go_simp; try with_reducible rfl)
              try simp only [Act.put, List.setIfInBounds_toArray, List.set_cons_zero, List.set_cons_succ]
              refine wpAnyH_take (i := 3) (oi := { dst := some 71, op := Go.Op.fieldAddr 76 (Go.Operand.tmp 10) 1, type := 0, pos := "policy.go:303", after := #[], guard := none }) (v := ?_) rfl (by kernel_rfl) (by kernel_rfl) (by kernel_rfl) (fun _ _ _ h => h) (Or.inl ⟨by rfl, ?_⟩) hH0 ?_
              rotate_left
              · (intro wz hSz; (try dsimp only at hSz); go_simp; try with_reducible rfl)
              try simp only [Act.put, List.setIfInBounds_toArray, List.set_cons_zero, List.set_cons_succ]
              refine wpAnyH_take (i := 4) (oi := { dst := some 72, op := Go.Op.load 40 (Go.Operand.tmp 71), type := 40, pos := "policy.go:303", after := #[{ on := 3, ground := Go.Ground.data }], guard := none }) (v := ?_) rfl (by kernel_rfl) (by kernel_rfl) (by kernel_rfl) (fun _ _ _ h => h) (Or.inl ⟨by rfl, ?_⟩) hH0 ?_
              rotate_left
              · (intro wz hSz; (try dsimp only at hSz); go_simp; try with_reducible rfl)
              try simp only [Act.put, List.setIfInBounds_toArray, List.set_cons_zero, List.set_cons_succ]
              refine wpAnyH_ready (rs := [5]) (by kernel_rfl) (by simp) ?_
              refine AllReadyH.cons (o := { dst := some 73, op := Go.Op.call { callee := Go.Callee.value (Go.Operand.func 74), args := #[Go.Operand.tmp 72], argTypes := #[40] }, type := 9, pos := "policy.go:303", after := #[{ on := 4, ground := Go.Ground.data }], guard := none }) rfl (fun K hK => ?_) AllReadyH.nil
              go_simp
              with_reducible refine (HPR.out.call _ (HT.out.later hH0.2.2.2.k.b)).mono ?_
              rintro r w2 ⟨rfl, hbq⟩
              go_wp2_with fail
              refine hK.out _ _ (HSX.out _ (Cx.below hH0.2.2.2 hbq)) (fun hH1 => ?_)
              have HV2 := Lib.hid (rowB HVA.out hbq)
              clear hK K hbq hH0 HVA
              try simp only [Act.put, List.setIfInBounds_toArray, List.set_cons_zero, List.set_cons_succ]
              refine wpAnyH_ready (rs := [6]) (by kernel_rfl) (by simp) ?_
              refine AllReadyH.cons (o := { dst := some 74, op := Go.Op.buildSlice 60 3 #[(0, Go.Operand.const (Go.Value.string { data := #[102, 108, 111, 111, 114] })), (1, Go.Operand.tmp 70), (2, Go.Operand.tmp 73)], type := 60, pos := "policy.go:303", after := #[{ on := 2, ground := Go.Ground.data }, { on := 5, ground := Go.Ground.data }], guard := none }) rfl (fun K hK => ?_) AllReadyH.nil
              go_simp
              refine hK.out _ _ (HSX.out _ (Cx.alloc hH1.2.2.2 _)) (fun hH2 => ?_)
              have hq3 := heap_alloc_new w2 (.cells #[.string ⟨#[102, 108, 111, 111, 114]⟩, .string xw, .string xd] 9)
              have HV3 := Lib.hid (rowB HV2.out (alloc1 w2 (.cells #[.string ⟨#[102, 108, 111, 111, 114]⟩, .string xw, .string xd] 9)))
              clear hK K hH1 HV2
              generalize w2.alloc (.cells #[.string ⟨#[102, 108, 111, 111, 114]⟩, .string xw, .string xd] 9) = W3 at *
              generalize w2.heap.size = gb at *
              have hl3 : LnC W3 gb 3 3 ⟨(Lib.join [kFloor, un, pl] [32]).toArray⟩ := ln_words [kFloor, un, pl] (three_words (by rw [HXW.out, HXD.out]; exact hq3)) (L.blk_lt hq3) (Nat.le_refl _) (by simp) HJL.out
              obtain ⟨z, hz⟩ : ∃ z : ByteArray, z = ⟨(Lib.join [kFloor, un, pl] [32]).toArray⟩ := ⟨_, rfl⟩
              rw [← hz] at hl3
              have HZ := Lib.hid hz
              have HLN := Lib.hid hl3
              clear hl3 hz hq3
              try simp only [Act.put, List.setIfInBounds_toArray, List.set_cons_zero, List.set_cons_succ]
              refine wpAnyH_ready (rs := [7]) (by kernel_rfl) (by simp) ?_
              refine AllReadyH.cons (o := { dst := some 75, op := Go.Op.call { callee := Go.Callee.value (Go.Operand.func 72), args := #[Go.Operand.tmp 74], argTypes := #[60] }, type := 51, pos := "policy.go:303", after := #[{ on := 6, ground := Go.Ground.data }, { on := 5, ground := Go.Ground.chain }], guard := none }) rfl (fun K hK => ?_) AllReadyH.nil
              go_simp
              with_reducible refine (HLN.out.call).mono ?_
              rintro r w4 ⟨rfl, hbq⟩
              go_wp2_with fail
              refine hK.out _ _ (HSX.out _ (Cx.below hH2.2.2.2 hbq)) (fun hH3 => ?_)
              have HV4 := Lib.hid (rowB HV3.out hbq)
              clear hK K hbq hH2 HV3 HLN
              try simp only [Act.put, List.setIfInBounds_toArray, List.set_cons_zero, List.set_cons_succ]
              refine wpAnyH_ready (rs := [8]) (by kernel_rfl) (by simp) ?_
              refine AllReadyH.cons (o := { dst := some 76, op := Go.Op.buildSlice 64 1 #[(0, Go.Operand.tmp 75)], type := 64, pos := "policy.go:303", after := #[{ on := 7, ground := Go.Ground.data }], guard := none }) rfl (fun K hK => ?_) AllReadyH.nil
              go_simp
              refine hK.out _ _ (HSX.out _ (Cx.alloc hH3.2.2.2 _)) (fun hH4 => ?_)
              have HNW := Lib.hid (World.news_of_block (heap_alloc_new w4 (.cells #[.string z, .bool false] 51)))
              have HVB := Lib.hid (rowB HV4.out (alloc1 w4 (.cells #[.string z, .bool false] 51)))
              have H1C : Hid (∀ u ∈ ([.string z, .bool false] : List Value), u.oneCell' = true) := Lib.hid (by intro u hu; simp at hu; rcases hu with rfl | rfl <;> rfl)
              clear hK K hH3 HV4
              generalize w4.alloc (.cells #[.string z, .bool false] 51) = W5 at *
              generalize w4.heap.size = hb5 at *
              have hsz : w.heap.size ≤ W5.heap.size := hH4.2.2.2.k.b.size
              try simp only [Act.put, List.setIfInBounds_toArray, List.set_cons_zero, List.set_cons_succ]
              refine wpAnyH_ready (rs := [9]) (by kernel_rfl) (by simp) ?_
              refine AllReadyH.cons (o := { dst := some 77, op := Go.Op.call { callee := Go.Callee.builtin Go.Builtin.append, args := #[Go.Operand.tmp 68, Go.Operand.tmp 76], argTypes := #[64, 64] }, type := 64, pos := "policy.go:303", after := #[{ on := 0, ground := Go.Ground.data }, { on := 8, ground := Go.Ground.data }, { on := 7, ground := Go.Ground.chain }], guard := none }) rfl (fun K hK => ?_) AllReadyH.nil
              refine step_append_lies _ (by rfl) (.tmp 68) (.tmp 76) 64 (by rfl) w.heap.size 51 i0 _ 2 24 Tryd.underlying64 hi0 hz0 hz1 hz2 rfl (by decide) (.slice vA (qn + j) vcap) (qn + j) (lineCells (ones (mid ++ fls.take j))) (by rfl) HVB.out ⟨hb5, 0, none⟩ 1 1 [.string z, .bool false] (by rfl) rfl HNW.out H1C.out (by omega) (by unfold maxLen; omega) (by omega) (by omega) _ rfl ?_
              intro g5 cap5 w5 hown5 hg5 hat5 hlt5
              refine hK.out _ _ (HSX.out _ (Cx.grown hH4.2.2.2 (by decide) HVB.out hg5)) (fun hH5 => ?_)
              clear hK K hH4 HVB HNW H1C hsz
              try simp only [Act.put, List.setIfInBounds_toArray, List.set_cons_zero, List.set_cons_succ]
              refine wpAnyH_take (i := 10) (oi := { dst := some 3, op := Go.Op.assign (Go.Operand.tmp 77), type := 64, pos := "policy.go:303", after := #[{ on := 9, ground := Go.Ground.data }, { on := 9, ground := Go.Ground.chain }, { on := 0, ground := Go.Ground.phase }, { on := 1, ground := Go.Ground.phase }, { on := 2, ground := Go.Ground.phase }, { on := 3, ground := Go.Ground.phase }, { on := 4, ground := Go.Ground.phase }, { on := 5, ground := Go.Ground.phase }, { on := 6, ground := Go.Ground.phase }, { on := 7, ground := Go.Ground.phase }, { on := 8, ground := Go.Ground.phase }, { on := 9, ground := Go.Ground.phase }], guard := none }) (v := ?_) rfl (by kernel_rfl) (by kernel_rfl) (by kernel_rfl) (fun _ _ _ h => h) (Or.inl ⟨by rfl, ?_⟩) hH5 ?_
              rotate_left
              · (intro wz hSz; (try dsimp only at hSz); go_simp; try with_reducible rfl)
              try simp only [Act.put, List.setIfInBounds_toArray, List.set_cons_zero, List.set_cons_succ]
              refine wpAnyH_done (by kernel_rfl) ?_ _
              have HVR : Hid (LRow w w5 (.slice (some ⟨g5, 0, none⟩) (qn + j + 1) cap5) (qn + (j + 1)) (mid ++ fls.take (j + 1))) := Lib.hid (by rw [HTK.out, ← List.append_assoc, LRow, ones_snoc, HUP.out, ← HZ.out]; exact hown5)
              have HK5 := Lib.hid hH5.2.2.2.k
              clear hown5 hg5 HTK HZ HJL HXW HXD HSX hat5 hlt5 hH5 HUP
              go_wp2_with fail
              go_roundg (fs.length - (j + 1))
              case rel => exact ⟨j + 1, by omega, by go_num, Nat.le_refl _, HVR, HK5⟩
              case measure => omega
            · have hje : j = fs.length := by omega
              subst hje
              have HVE := Lib.hid (show LRow w wr _ allLns.length allLns by
                have := HV.out
                rw [List.take_of_length_le (by rw [HFLS.out, List.length_map]; exact Nat.le_refl _), ← HALL.out, ← HLEN.out] at this
                exact this)
              clear HV
              go_wp2_with fail
              go_ret
              exact ⟨_, rfl, HVE.out, HK.out.b⟩
end Go.Proofs.YtadhhamfikpimaaDoor.O

namespace Go.Proofs.YtadhhamfikpimaaDoor.O
set_option linter.unusedVariables false
set_option linter.unusedSimpArgs false
open Go.RowKit
open T

def polTxt (ns : List Int) (hid : List UInt8) (us : List Usr) (fs : List Flr) : List UInt8 := P.join (ones (polLns ns hid us fs))
theorem seen_names {L C : Int} : ∀ (xs : List (List UInt8 × Int × Nat)) (seen : List (List UInt8)), seenOk L C seen xs = true → ∀ x ∈ xs, x.1.length ≤ 64
  | [], _, _, x, hx => by cases hx
  | y :: r, seen, h, x, hx => by
    rw [seenOk] at h
    simp only [Bool.and_eq_true] at h
    rcases List.mem_cons.1 hx with rfl | hx
    · have := h.1.1.2
      unfold P.name at this
      simp only [Bool.and_eq_true, decide_eq_true_eq] at this
      exact this.1.2
    · exact seen_names r _ h.2 x hx
theorem ok_nice {ns : List Int} {hid : List UInt8} {us : List Usr} {fs : List Flr} (h : polOk ns hid us fs = true) : us.length ≤ 32 ∧ fs.length ≤ 32 ∧ hid.length ≤ 200 ∧ (∀ u ∈ us, u.name.length ≤ 64) ∧ ∀ u ∈ fs, u.pre.length ≤ 64 := by
  unfold polOk at h
  simp only [Bool.and_eq_true] at h
  obtain ⟨⟨⟨_, hp⟩, hu⟩, hf⟩ := h
  unfold usersOk at hu
  unfold floorsOk at hf
  unfold plainB at hp
  simp only [Bool.and_eq_true, decide_eq_true_eq] at hu hf hp
  exact ⟨hu.1, hf.1, hp.1.2, fun u hm => seen_names _ _ hu.2 (u.name, u.lv, u.ct) (List.mem_map.2 ⟨u, hm, rfl⟩), fun u hm => seen_names _ _ hf.2 (u.pre, u.lv, u.ct) (List.mem_map.2 ⟨u, hm, rfl⟩)⟩
theorem bulk_ones : ∀ xs : List (List UInt8), (∀ x ∈ xs, x.length ≤ 2000) → P.bulk (ones xs) ≤ 2001 * xs.length
  | [], _ => Nat.le_refl _
  | x :: r, h => by
    have ih := bulk_ones r (fun y hy => h y (List.mem_cons_of_mem _ hy))
    have hx := h x List.mem_cons_self
    show x.length + 1 + P.bulk (ones r) ≤ 2001 * (r.length + 1)
    omega
theorem polLns_len (ns : List Int) (hid : List UInt8) (us : List Usr) (fs : List Flr) : (polLns ns hid us fs).length = 7 + us.length + fs.length := by
  simp [polLns, numLns]
  omega
theorem polLns_short {ns : List Int} {hid : List UInt8} {us : List Usr} {fs : List Flr} (h : polOk ns hid us fs = true) : ∀ x ∈ polLns ns hid us fs, x.length ≤ 2000 := by
  obtain ⟨_, _, h3, h4, h5⟩ := ok_nice h
  intro x hx
  unfold polLns at hx
  simp only [List.mem_append, List.mem_singleton, List.mem_map] at hx
  rcases hx with ((hx | hx) | ⟨u, hu, rfl⟩) | ⟨u, hu, rfl⟩
  · unfold numLns at hx
    obtain ⟨k, hk, rfl⟩ := List.mem_map.1 hx
    have h1 := keys_len (List.mem_range.1 hk)
    have h2 := P.decimal_length (ns.getD k 0)
    unfold numLn
    simp only [List.length_append, List.length_cons]
    omega
  · subst hx
    simp [kHidden]
    omega
  · have h1 := h4 u hu
    have h2 := L.print_len u.lv u.ct
    unfold usrLn
    cases u.ad <;> simp [kUser, kAdmin] <;> omega
  · have h1 := h5 u hu
    have h2 := L.print_len u.lv u.ct
    unfold flrLn
    simp [kFloor]
    omega
def LsC (n0 n1 n2 n3 n4 n5 : Int) (hid : ByteArray) (uA fA : Option Addr) (ucap fcap : Nat) (us : List Usr) (fs : List Flr) (xs : List (List UInt8)) : Prop :=
  ∀ W : World, Tab W → UsersIn W uA us → FloorsIn W fA fs → Calls Tryd.prog 41 #[polA n0 n1 n2 n3 n4 n5 hid (.slice uA us.length ucap) (.slice fA fs.length fcap)] W (LnsEnd W xs)
theorem LsC.call {n0 n1 n2 n3 n4 n5 : Int} {hid : ByteArray} {uA fA : Option Addr} {ucap fcap : Nat} {us : List Usr} {fs : List Flr} {xs : List (List UInt8)} (h : LsC n0 n1 n2 n3 n4 n5 hid uA fA ucap fcap us fs xs) (W : World) (h0 : Tab W) (h1 : UsersIn W uA us) (h2 : FloorsIn W fA fs) :
    Calls Tryd.prog 41 #[polA n0 n1 n2 n3 n4 n5 hid (.slice uA us.length ucap) (.slice fA fs.length fcap)] W (LnsEnd W xs) := h W h0 h1 h2
theorem CkC.at {n0 n1 n2 n3 n4 n5 : Int} {hid : ByteArray} {uA fA : Option Addr} {ucap fcap : Nat} {us : List Usr} {fs : List Flr} {v : Int} (h : CkC n0 n1 n2 n3 n4 n5 hid uA fA ucap fcap us fs v) (W : World) (h1 : UsersIn W uA us) (h2 : FloorsIn W fA fs) :
    Calls Tryd.prog 18 #[polA n0 n1 n2 n3 n4 n5 hid (.slice uA us.length ucap) (.slice fA fs.length fcap)] W fun e w' => e = .returned (.int .i64 v) ∧ Below W.heap.size W w' := h W h1 h2
def JtC (xs : List (List UInt8)) (txt : List UInt8) (n : Nat) : Prop := ∀ (A : Option Addr) (cap : Nat) (W : World), LinesIn W A (ones xs) →
  Calls Tryd.prog 40 #[.slice A n cap] W fun e w' => ∃ A' cap', e = .returned (.slice A' txt.length cap') ∧ txt.length ≤ cap' ∧ BytesIn w' A' txt ∧ Below W.heap.size W w'
theorem JtC.call {xs : List (List UInt8)} {txt : List UInt8} {n : Nat} (h : JtC xs txt n) {A : Option Addr} (cap : Nat) (W : World) (hA : LinesIn W A (ones xs)) :
    Calls Tryd.prog 40 #[.slice A n cap] W fun e w' => ∃ A' cap', e = .returned (.slice A' txt.length cap') ∧ txt.length ≤ cap' ∧ BytesIn w' A' txt ∧ Below W.heap.size W w' := h A cap W hA
/-- What Print comes to. -/
def PrintEnd (w : World) (ok : Bool) (txt : List UInt8) (e : Ending) (w' : World) : Prop :=
  Below w.heap.size w w' ∧ if ok = true then (if 8192 < txt.length then e = .returned (.tuple #[.slice none 0 0, .int .i64 4]) else ∃ A cap, e = .returned (.tuple #[.slice A txt.length cap, .int .i64 0]) ∧ txt.length ≤ cap ∧ BytesIn w' A txt) else e = .returned (.tuple #[.slice none 0 0, .int .i64 2])
section
variable {n0 n1 n2 n3 n4 n5 : Int} {hid : ByteArray} {uA fA : Option Addr} {ucap fcap : Nat} {us : List Usr} {fs : List Flr} {w : World}

set_option maxRecDepth 100000 in
set_option maxHeartbeats 2000000 in
theorem print_bad (HU : Hid (UsersIn w uA us)) (HF : Hid (FloorsIn w fA fs)) (CK : Hid (CkC n0 n1 n2 n3 n4 n5 hid uA fA ucap fcap us fs 2)) (txt : List UInt8) :
    Calls Tryd.prog 16 #[polA n0 n1 n2 n3 n4 n5 hid (.slice uA us.length ucap) (.slice fA fs.length fcap)] w (PrintEnd w false txt) := by
  obtain ⟨W0, hW0⟩ : ∃ W0 : World, W0 = w.alloc (.cells #[.int .i64 n0, .int .i64 n1, .int .i64 n2, .int .i64 n3, .int .i64 n4, .int .i64 n5, .string hid, .slice uA us.length ucap, .slice fA fs.length fcap] 26) := ⟨_, rfl⟩
  have HB0 := Lib.hid (show Below w.heap.size w W0 by rw [hW0]; exact (Below.refl _ _).alloc (Nat.le_refl _) _)
  go_enter Tryd.func16, Tryd.ntmps16
  go_wp2_with fail
  rw [← hW0]
  clear hW0
  with_reducible refine (CK.out.at W0 (HU.out.below HB0.out) (HF.out.below HB0.out)).mono ?_
  rintro e w2 ⟨rfl, hb2⟩
  have HB2 := Lib.hid (HB0.out.trans (hb2.mono HB0.out.size))
  clear hb2 HB0
  go_wp2_with fail
  go_ret2
  exact ⟨HB2.out, by rw [if_neg (by decide)]; rfl⟩
set_option maxRecDepth 100000 in
set_option maxHeartbeats 2000000 in
theorem print_good (HT : Hid (Tab w)) (HU : Hid (UsersIn w uA us)) (HF : Hid (FloorsIn w fA fs)) (CK : Hid (CkC n0 n1 n2 n3 n4 n5 hid uA fA ucap fcap us fs 0)) (xs : List (List UInt8)) (txt : List UInt8) (LS : Hid (LsC n0 n1 n2 n3 n4 n5 hid uA fA ucap fcap us fs xs)) (JT : Hid (JtC xs txt xs.length)) (htx : txt.length ≤ 4194304) :
    Calls Tryd.prog 16 #[polA n0 n1 n2 n3 n4 n5 hid (.slice uA us.length ucap) (.slice fA fs.length fcap)] w (PrintEnd w true txt) := by
  obtain ⟨W0, hW0⟩ : ∃ W0 : World, W0 = w.alloc (.cells #[.int .i64 n0, .int .i64 n1, .int .i64 n2, .int .i64 n3, .int .i64 n4, .int .i64 n5, .string hid, .slice uA us.length ucap, .slice fA fs.length fcap] 26) := ⟨_, rfl⟩
  have HB0 := Lib.hid (show Below w.heap.size w W0 by rw [hW0]; exact (Below.refl _ _).alloc (Nat.le_refl _) _)
  have HP0 := Lib.hid (show W0.heap[w.heap.size]? = some (.cells #[.int .i64 n0, .int .i64 n1, .int .i64 n2, .int .i64 n3, .int .i64 n4, .int .i64 n5, .string hid, .slice uA us.length ucap, .slice fA fs.length fcap] 26 (0, 0)) by rw [hW0]; exact heap_alloc_new w _)
  go_enter Tryd.func16, Tryd.ntmps16
  go_wp2_with fail
  rw [← hW0]
  clear hW0
  with_reducible refine (CK.out.at W0 (HU.out.below HB0.out) (HF.out.below HB0.out)).mono ?_
  rintro e w2 ⟨rfl, hb2⟩
  have HB2 := Lib.hid (HB0.out.trans (hb2.mono HB0.out.size))
  have HP2 := Lib.hid ((hb2.block _ (L.blk_lt HP0.out)).trans HP0.out)
  clear hb2 HB0 HP0
  obtain ⟨a0, a1, a2, a3, a4, a5, a6, a7, a8⟩ := pol_cells HP2.out
  go_wp2_with fail
  with_reducible refine (LS.out.call w2 (HT.out.later HB2.out) (HU.out.below HB2.out) (HF.out.below HB2.out)).mono ?_
  intro e w3 he
  obtain ⟨v, rfl, hown, hb3⟩ := he
  obtain ⟨A, cap, hv, -, -⟩ := own_form hown
  have hL : LinesIn w3 A (ones xs) := by
    have e1 : (ones xs).length = xs.length := List.length_map _
    rw [← e1] at hown hv
    obtain ⟨A', cap', e2, h2⟩ := lines_of_own hown
    rw [hv] at e2
    injection e2 with e2
    rw [e2]
    exact h2.2
  subst hv
  have HB3 := Lib.hid (HB2.out.trans (hb3.mono HB2.out.size))
  have HL := Lib.hid hL
  clear hown hb3 hL HB2 HP2 a0 a1 a2 a3 a4 a5 a6 a7 a8
  go_wp2_with fail
  with_reducible refine (JT.out.call cap w3 HL.out).mono ?_
  rintro e w4 ⟨A', cap', rfl, hc', hin, hb4⟩
  have HB4 := Lib.hid (HB3.out.trans (hb4.mono HB3.out.size))
  have HIN := Lib.hid hin
  clear hin hb4 HB3 HL
  by_cases hlong : 8192 < txt.length
  · have h' : (8192 : Int) < (txt.length : Int) := by omega
    go_wp2_with fail
    go_ret2
    exact ⟨HB4.out, by rw [if_pos rfl, if_pos hlong]; rfl⟩
  · have h' : ¬ (8192 : Int) < (txt.length : Int) := by omega
    go_wp2_with fail
    go_ret2
    exact ⟨HB4.out, by rw [if_pos rfl, if_neg hlong]; exact ⟨A', cap', rfl, hc', HIN.out⟩⟩
end
theorem print_pol (n0 n1 n2 n3 n4 n5 : Int) (hid : ByteArray) (uA fA : Option Addr) (ucap fcap : Nat) (us : List Usr) (fs : List Flr) (w : World) (hns : ∀ n ∈ [n0, n1, n2, n3, n4, n5], -9223372036854775808 ≤ n ∧ n ≤ 9223372036854775807) (hh : hid.size ≤ maxLen) (hU : UsersIn w uA us) (hul : us.length ≤ maxLen) (huc : ∀ u ∈ us, u.ct < 18446744073709551616 ∧ u.name.length ≤ maxLen ∧ -9223372036854775808 ≤ u.lv ∧ u.lv ≤ 9223372036854775807) (hF : FloorsIn w fA fs) (hfl : fs.length ≤ maxLen) (hfc : ∀ u ∈ fs, u.ct < 18446744073709551616 ∧ u.pre.length ≤ maxLen ∧ -9223372036854775808 ≤ u.lv ∧ u.lv ≤ 9223372036854775807) (ht : Tab w) :
    Calls Tryd.prog 16 #[polA n0 n1 n2 n3 n4 n5 hid (.slice uA us.length ucap) (.slice fA fs.length fcap)] w (PrintEnd w (polOk [n0, n1, n2, n3, n4, n5] hid.data.toList us fs) (polTxt [n0, n1, n2, n3, n4, n5] hid.data.toList us fs)) := by
  have ck : ∀ {ok : Bool}, polOk [n0, n1, n2, n3, n4, n5] hid.data.toList us fs = ok → CkC n0 n1 n2 n3 n4 n5 hid uA fA ucap fcap us fs (if ok then 0 else 2) := fun {ok} e W h1 h2 => by
    have := check_any n0 n1 n2 n3 n4 n5 hid uA fA ucap fcap us fs W hh h1 hul (fun u h => ⟨(huc u h).1, (huc u h).2.1⟩) h2 hfl (fun u h => ⟨(hfc u h).1, (hfc u h).2.1⟩)
    rw [e] at this
    exact this
  cases hok : polOk [n0, n1, n2, n3, n4, n5] hid.data.toList us fs with
  | false => exact print_bad (Lib.hid hU) (Lib.hid hF) (Lib.hid (ck hok)) _
  | true =>
    obtain ⟨h1, h2, h3, h4, h5⟩ := ok_nice hok
    have hbk := bulk_ones _ (polLns_short hok)
    have hlen := polLns_len [n0, n1, n2, n3, n4, n5] hid.data.toList us fs
    have hbk2 : P.bulk (ones (polLns [n0, n1, n2, n3, n4, n5] hid.data.toList us fs)) ≤ 4194304 := by omega
    refine print_good (Lib.hid ht) (Lib.hid hU) (Lib.hid hF) (Lib.hid (ck hok)) (polLns [n0, n1, n2, n3, n4, n5] hid.data.toList us fs) _ (Lib.hid fun W t0 u0 f0 => ?_) (Lib.hid fun A cap W hA => ?_) (Nat.le_trans (P.join_length _) hbk2)
    · exact lines_walk n0 n1 n2 n3 n4 n5 hid hid.data.toList uA fA ucap fcap us fs W (Lib.hid t0) (Lib.hid u0) (Lib.hid f0) h1 h2 (Lib.hid (by rfl)) (by omega)
        (Lib.hid fun k hk => by
          have : [n0, n1, n2, n3, n4, n5].getD k 0 ∈ [n0, n1, n2, n3, n4, n5] := by
            match k, hk with
            | 0, _ => simp
            | 1, _ => simp
            | 2, _ => simp
            | 3, _ => simp
            | 4, _ => simp
            | 5, _ => simp
          exact hns _ this)
        (Lib.hid fun u hu => ⟨(huc u hu).1, Nat.le_trans (h4 u hu) (by omega), (huc u hu).2.2⟩) (Lib.hid fun u hu => ⟨(hfc u hu).1, Nat.le_trans (h5 u hu) (by omega), (hfc u hu).2.2⟩)
    · have := join_in A cap (ones (polLns [n0, n1, n2, n3, n4, n5] hid.data.toList us fs)) W hbk2 hA
      rw [show (ones (polLns [n0, n1, n2, n3, n4, n5] hid.data.toList us fs)).length = (polLns [n0, n1, n2, n3, n4, n5] hid.data.toList us fs).length from List.length_map _] at this
      exact this
end Go.Proofs.YtadhhamfikpimaaDoor.O
