/-
  stay and change: what a hunk does with lines that stay, and with a change.
  Build.
-/
import Derived.Test.YtimalohdchhjgaaGhc
namespace Go.Proofs.Ytimalohdchhjgaa.H
set_option linter.unusedVariables false
set_option linter.unusedSimpArgs false
open Go.RowKit
open T S
open V (grown_of)
open I (alloc1 own_at own_below)
open N (Ln)

def OpEnd (w0 : World) (base bb c a b : Nat) (op : Bool) (hs : List Hk) (e : Ending) (w' : World) : Prop :=
  e = .returned (.tuple #[]) ∧ ∃ (vh : Value) (xs : List Hr), xs.map (·.h) = hs ∧ Bd w0 w' base bb vh c op a b xs ∧ ∀ x ∈ xs, x.rs.length = x.h.es.length
theorem Bd.each {w0 w : World} {base bb : Nat} {vh : Value} {c a b : Nat} {op : Bool} {xs : List Hr} (h : Bd w0 w base bb vh c op a b xs) : ∀ x ∈ xs, x.rs.length = x.h.es.length := fun x hx => (h.s.ok x hx).e.1
/-- What may be relied on of a builder's hunks. -/
structure Fits (xs : List Hr) (x : Hr) (a b : Nat) (l : List Ln) : Prop where
  h1 : xs.length ≤ 50000
  h2 : x.rs.length ≤ 50000
  h3 : a ≤ 20000
  h4 : b ≤ 20000
  h5 : l.length ≤ 20000
  h6 : 0 ≤ x.h.o ∧ x.h.o ≤ 50000
  h7 : 0 ≤ x.h.n ∧ x.h.n ≤ 50000
set_option maxRecDepth 100000 in
set_option maxHeartbeats 4000000 in
theorem stay_put (w0 w : World) (base bb c a b : Nat) (vh : Value) (ys : List Hr) (x : Hr) (LA : Option Addr) (lc : Nat) (l : List Ln) (hD : Bd w0 w base bb vh c true a b (ys ++ [x]))
    (hL : LinesIn w0 LA l) (hlc : l.length ≤ lc) (hz : LA = none → lc = 0) (hf : Fits ys x a b l) (hc : c ≤ 100) (hle : l.length ≤ 2 * c) :
    Calls Try.prog 24 #[.pointer (some ⟨bb, 0, none⟩), .slice LA l.length lc, .bool true] w (OpEnd w0 base bb c (a + l.length) (b + l.length) true (ys.map (·.h) ++ [putH 1 l x.h])) := by
  have HPT := Lib.hid (put_any w0 w base bb c a b vh true ys x 1 LA lc l hD hL hlc hz (by have := hf.h1; omega) (by have := hf.h2; omega) (by have := hf.h3; omega) (by have := hf.h4; omega) (by have := hf.h5; omega) (by have := hf.h6; omega) (by have := hf.h7; omega))
  have co : w.cell? ⟨bb, 2, none⟩ = some (.bool true) := L.blk_cell hD.blk 2
  have c0 : w.cell? ⟨bb, 0, none⟩ = some (.int .i64 (c : Int)) := L.blk_cell hD.blk 0
  have hw : IntKind.i64.wrap (2 * (c : Int)) = 2 * (c : Int) := by rw [IntKind.wrap_i64]; omega
  have hd : decide ((l.length : Int) ≤ 2 * (c : Int)) = true := decide_eq_true (by omega)
  have hE : ∀ e w', PtEnd w0 w base bb vh c true a b ys x.h 1 l e w' → OpEnd w0 base bb c (a + l.length) (b + l.length) true (ys.map (·.h) ++ [putH 1 l x.h]) e w' := fun e w' h => by
    obtain ⟨h1, ⟨x', h2, h3⟩, -⟩ := h
    exact ⟨h1, vh, ys ++ [x'], by simp [h2], h3, h3.each⟩
  have HE := Lib.hid hE
  obtain ⟨n, hn⟩ : ∃ n, n = l.length := ⟨_, rfl⟩
  rw [← hn] at HPT hd ⊢
  rw [← hn] at HE
  clear hn hD hL hlc hz hf hle hE
  go_enter Try.func24, Try.ntmps24
  go_wp2_with fail
  with_reducible refine (HPT.out).mono ?_
  rintro e w2 h2
  have h3 := HE.out e w2 h2
  obtain ⟨rfl, h4⟩ := h3
  have H4 := Lib.hid h4
  clear h2 h4
  go_wp2_with fail
  go_end0
  exact ⟨rfl, H4.out⟩
set_option maxRecDepth 100000 in
set_option maxHeartbeats 4000000 in
theorem stay_end (w0 w : World) (base bb c a b : Nat) (vh : Value) (ys : List Hr) (x : Hr) (LA : Option Addr) (lc : Nat) (l : List Ln) (hD : Bd w0 w base bb vh c true a b (ys ++ [x]))
    (hL : LinesIn w0 LA l) (hlc : l.length ≤ lc) (hz : LA = none → lc = 0) (hf : Fits ys x a b l) (hl : l ≠ []) :
    Calls Try.prog 24 #[.pointer (some ⟨bb, 0, none⟩), .slice LA l.length lc, .bool false] w (OpEnd w0 base bb c (a + (l.take c).length) (b + (l.take c).length) false (ys.map (·.h) ++ [putH 1 (l.take c) x.h])) := by
  have HPT := Lib.hid (end_any w0 w base bb c a b vh true ys x LA lc l hD hL hlc hz (by have := hf.h1; omega) (by have := hf.h2; omega) (by have := hf.h3; omega) (by have := hf.h4; omega) (by have := hf.h5; omega) (by have := hf.h6; omega) (by have := hf.h7; omega) hl)
  have co : w.cell? ⟨bb, 2, none⟩ = some (.bool true) := L.blk_cell hD.blk 2
  have hE : ∀ e w', EnEnd w0 base bb vh c a b ys x.h l e w' → (∃ A lc, e = .returned (.slice A (l.drop c).length lc)) ∧ ∃ (vh : Value) (xs : List Hr), xs.map (·.h) = (ys.map (·.h) ++ [putH 1 (l.take c) x.h]) ∧ Bd w0 w' base bb vh c false (a + (l.take c).length) (b + (l.take c).length) xs ∧ ∀ x ∈ xs, x.rs.length = x.h.es.length := fun e w' h => by
    obtain ⟨A, lc, h1, -, -, -, x', h2, h3⟩ := h
    exact ⟨⟨A, lc, h1⟩, vh, ys ++ [x'], by simp [h2], h3, h3.each⟩
  have HE := Lib.hid hE
  obtain ⟨n, hn⟩ : ∃ n, n = l.length := ⟨_, rfl⟩
  rw [← hn] at HPT ⊢
  have cE : ∀ W, (∃ (vh : Value) (xs : List Hr), Bd w0 W base bb vh c false (a + (l.take c).length) (b + (l.take c).length) xs) → W.cell? ⟨bb, 2, none⟩ = some (.bool false) := fun W ⟨vh, xs, h⟩ => L.blk_cell h.blk 2
  have CE := Lib.hid cE
  clear hn hD hL hlc hz hf hE hl cE
  go_enter Try.func24, Try.ntmps24
  go_wp2_with fail
  with_reducible refine (HPT.out).mono ?_
  rintro e w2 h2
  obtain ⟨⟨A, lc2, rfl⟩, h4⟩ := HE.out e w2 h2
  have H4 := Lib.hid h4
  clear h2 h4
  go_wp2_with fail
  go_end0
  exact ⟨rfl, H4.out⟩
set_option maxRecDepth 100000 in
set_option maxHeartbeats 4000000 in
theorem stay_cut (w0 w : World) (base bb c a b : Nat) (vh : Value) (ys : List Hr) (x : Hr) (LA : Option Addr) (lc : Nat) (l : List Ln) (hD : Bd w0 w base bb vh c true a b (ys ++ [x]))
    (hL : LinesIn w0 LA l) (hlc : l.length ≤ lc) (hz : LA = none → lc = 0) (hf : Fits ys x a b l) (hc : c ≤ 100) (hle : 2 * c < l.length) :
    Calls Try.prog 24 #[.pointer (some ⟨bb, 0, none⟩), .slice LA l.length lc, .bool true] w (OpEnd w0 base bb c (a + l.length) (b + l.length) true (ys.map (·.h) ++ [putH 1 (l.take c) x.h, putH 1 (l.drop (l.length - c)) (newH (a + (l.length - c)) (b + (l.length - c)))])) := by
  have hl : l ≠ [] := fun e => by rw [e] at hle; simp at hle
  have HPT := Lib.hid (end_any w0 w base bb c a b vh true ys x LA lc l hD hL hlc hz (by have := hf.h1; omega) (by have := hf.h2; omega) (by have := hf.h3; omega) (by have := hf.h4; omega) (by have := hf.h5; omega) (by have := hf.h6; omega) (by have := hf.h7; omega) hl)
  have co : w.cell? ⟨bb, 2, none⟩ = some (.bool true) := L.blk_cell hD.blk 2
  have c0 : w.cell? ⟨bb, 0, none⟩ = some (.int .i64 (c : Int)) := L.blk_cell hD.blk 0
  have hw : IntKind.i64.wrap (2 * (c : Int)) = 2 * (c : Int) := by rw [IntKind.wrap_i64]; omega
  have hd : decide ((l.length : Int) ≤ 2 * (c : Int)) = false := decide_eq_false (by omega)
  have htl : (l.take c).length = c := by rw [List.length_take]; omega
  have hdl : (l.drop c).length = l.length - c := by rw [List.length_drop]
  have hE : ∀ e w', EnEnd w0 base bb vh c a b ys x.h l e w' → ∃ A lc2, e = .returned (.slice A (l.length - c) lc2) ∧ ∃ (vh : Value) (xs : List Hr), xs.map (·.h) = (ys.map (·.h) ++ [putH 1 (l.take c) x.h]) ∧ Bd w0 w' base bb vh c false (a + c) (b + c) xs ∧ LinesIn w0 A (l.drop c) ∧ l.length - c ≤ lc2 ∧ (A = none → lc2 = 0) := fun e w' h => by
    obtain ⟨A, lc, h1, h4, h5, h6, x', h2, h3⟩ := h
    rw [hdl] at h1 h5
    rw [htl] at h3
    exact ⟨A, lc, h1, vh, ys ++ [x'], by simp [h2], h3, h4, h5, h6⟩
  have HE := Lib.hid hE
  have hB : ∀ (w2 : World) (A : Option Addr) (lc2 : Nat) (vh : Value) (xs : List Hr), xs.map (·.h) = (ys.map (·.h) ++ [putH 1 (l.take c) x.h]) → Bd w0 w2 base bb vh c false (a + c) (b + c) xs → LinesIn w0 A (l.drop c) → l.length - c ≤ lc2 →
      Calls Try.prog 42 #[.pointer (some ⟨bb, 0, none⟩), .slice A (l.length - c) lc2] w2 (OpEnd w0 base bb c (a + l.length) (b + l.length) true (ys.map (·.h) ++ [putH 1 (l.take c) x.h, putH 1 (l.drop (l.length - c)) (newH (a + (l.length - c)) (b + (l.length - c)))])) := fun w2 A lc2 vh xs h1 h2 h3 h4 => by
    have hxl : xs.length = ys.length + 1 := by have := congrArg List.length h1; simpa using this
    have := begin_any w0 w2 base bb c (a + c) (b + c) vh false xs A lc2 (l.drop c) h2 h3 (by rw [hdl]; exact h4) (fun e => by rw [e] at hdl; simp at hdl; omega) (by have := hf.h1; omega) (by have := hf.h3; omega) (by have := hf.h4; omega) (by rw [hdl]; have := hf.h5; omega) (by omega)
    rw [hdl] at this
    refine this.mono fun e w' h => ?_
    obtain ⟨h6, ⟨vh2, x', h7, h8⟩, -⟩ := h
    rw [hdl, show a + c + (l.length - c) = a + l.length by omega, show b + c + (l.length - c) = b + l.length by omega] at h8
    rw [hdl, List.drop_drop, show c + (l.length - c - c) = l.length - c by omega, show a + c + (l.length - c - c) = a + (l.length - c) by omega, show b + c + (l.length - c - c) = b + (l.length - c) by omega] at h7
    exact ⟨h6, vh2, xs ++ [x'], by rw [List.map_append, h1, List.map_singleton, h7, List.append_assoc]; rfl, h8, h8.each⟩
  have HB := Lib.hid hB
  obtain ⟨n, hn⟩ : ∃ n, n = l.length := ⟨_, rfl⟩
  rw [← hn] at HPT hd HE HB ⊢
  clear hn hD hL hlc hz hf hE hl hle htl hdl hB
  go_enter Try.func24, Try.ntmps24
  go_wp2_with fail
  with_reducible refine (HPT.out).mono ?_
  rintro e w2 h2
  obtain ⟨A, lc2, rfl, vh2, xs, h3, h4, h5, h6, h7⟩ := HE.out e w2 h2
  have co2 : w2.cell? ⟨bb, 2, none⟩ = some (.bool false) := L.blk_cell h4.blk 2
  have HB2 := Lib.hid (HB.out w2 A lc2 vh2 xs h3 h4 h5 h6)
  clear h2 h3 h4 h5 h6
  go_wp2_with fail
  with_reducible refine (HB2.out).mono ?_
  rintro e w3 ⟨rfl, h8⟩
  have H8 := Lib.hid h8
  clear h8
  go_wp2_with fail
  go_end0
  exact ⟨rfl, H8.out⟩
set_option maxRecDepth 100000 in
set_option maxHeartbeats 4000000 in
theorem stay_begin (w0 w : World) (base bb c a b : Nat) (vh : Value) (xs : List Hr) (LA : Option Addr) (lc : Nat) (l : List Ln) (hD : Bd w0 w base bb vh c false a b xs)
    (hL : LinesIn w0 LA l) (hlc : l.length ≤ lc) (hl : l ≠ []) (h1 : xs.length ≤ 50000) (h3 : a ≤ 20000) (h4 : b ≤ 20000) (h5 : l.length ≤ 20000) (hc : c ≤ 100) :
    Calls Try.prog 24 #[.pointer (some ⟨bb, 0, none⟩), .slice LA l.length lc, .bool true] w (OpEnd w0 base bb c (a + l.length) (b + l.length) true (xs.map (·.h) ++ [putH 1 (l.drop (l.length - c)) (newH (a + (l.length - c)) (b + (l.length - c)))])) := by
  have HPT := Lib.hid (begin_any w0 w base bb c a b vh false xs LA lc l hD hL hlc (fun e => absurd e hl) (by omega) (by omega) (by omega) (by omega) (by omega))
  have co : w.cell? ⟨bb, 2, none⟩ = some (.bool false) := L.blk_cell hD.blk 2
  have hE : ∀ e w', BgEnd w0 w base bb c a b vh xs l e w' → OpEnd w0 base bb c (a + l.length) (b + l.length) true (xs.map (·.h) ++ [putH 1 (l.drop (l.length - c)) (newH (a + (l.length - c)) (b + (l.length - c)))]) e w' := fun e w' h => by
    obtain ⟨h1, ⟨vh, x', h2, h3⟩, -⟩ := h
    exact ⟨h1, vh, xs ++ [x'], by simp [h2], h3, h3.each⟩
  have HE := Lib.hid hE
  obtain ⟨n, hn⟩ : ∃ n, n = l.length := ⟨_, rfl⟩
  rw [← hn] at HPT HE ⊢
  clear hn hD hL hlc hl hE
  go_enter Try.func24, Try.ntmps24
  go_wp2_with fail
  with_reducible refine (HPT.out).mono ?_
  rintro e w2 h2
  obtain ⟨rfl, h4⟩ := HE.out e w2 h2
  have H4 := Lib.hid h4
  clear h2 h4
  go_wp2_with fail
  go_end0
  exact ⟨rfl, H4.out⟩
set_option maxRecDepth 100000 in
set_option maxHeartbeats 4000000 in
theorem stay_none (w0 w : World) (base bb c a b : Nat) (vh : Value) (xs : List Hr) (LA : Option Addr) (lc n : Nat) (hD : Bd w0 w base bb vh c false a b xs) :
    Calls Try.prog 24 #[.pointer (some ⟨bb, 0, none⟩), .slice LA n lc, .bool false] w (OpEnd w0 base bb c a b false (xs.map (·.h))) := by
  have co : w.cell? ⟨bb, 2, none⟩ = some (.bool false) := L.blk_cell hD.blk 2
  have HE := Lib.hid (show OpEnd w0 base bb c a b false (xs.map (·.h)) (.returned (.tuple #[])) w from ⟨rfl, vh, xs, rfl, hD, hD.each⟩)
  clear hD
  go_enter Try.func24, Try.ntmps24
  go_wp2_with fail
  go_end0
  exact HE.out
set_option maxRecDepth 100000 in
set_option maxHeartbeats 4000000 in
theorem change_on (w0 w : World) (base bb c a b : Nat) (vh : Value) (ys : List Hr) (x : Hr) (d : Int) (LA : Option Addr) (lc : Nat) (l : List Ln) (hD : Bd w0 w base bb vh c true a b (ys ++ [x]))
    (hL : LinesIn w0 LA l) (hlc : l.length ≤ lc) (hz : LA = none → lc = 0) (hf : Fits ys x a b l) :
    Calls Try.prog 25 #[.pointer (some ⟨bb, 0, none⟩), .agg #[.int .i64 d, .slice LA l.length lc]] w (OpEnd w0 base bb c (a + lenO d l) (b + lenN d l) true (ys.map (·.h) ++ [putH d l x.h])) := by
  obtain ⟨W1, hW1⟩ : ∃ W : World, W = w.alloc (.cells #[.int .i64 d, .slice LA l.length lc] 47) := ⟨_, rfl⟩
  have hX := heap_alloc_new w (.cells #[.int .i64 d, .slice LA l.length lc] 47)
  rw [← hW1] at hX
  have x0 := L.blk_cell hX 0
  have x1 := L.blk_cell hX 1
  simp only [List.getElem?_toArray, List.getElem?_cons_zero, List.getElem?_cons_succ] at x0 x1
  have hD1 := hD.below (show Below w.heap.size w W1 by rw [hW1]; exact alloc1 _ _)
  have HPT := Lib.hid (put_any w0 W1 base bb c a b vh true ys x d LA lc l hD1 hL hlc hz (by have := hf.h1; omega) (by have := hf.h2; omega) (by have := hf.h3; omega) (by have := hf.h4; omega) (by have := hf.h5; omega) (by have := hf.h6; omega) (by have := hf.h7; omega))
  have co : W1.cell? ⟨bb, 2, none⟩ = some (.bool true) := L.blk_cell hD1.blk 2
  have hE : ∀ e w', PtEnd w0 W1 base bb vh c true a b ys x.h d l e w' → OpEnd w0 base bb c (a + lenO d l) (b + lenN d l) true (ys.map (·.h) ++ [putH d l x.h]) e w' := fun e w' h => by
    obtain ⟨h1, ⟨x', h2, h3⟩, -⟩ := h
    exact ⟨h1, vh, ys ++ [x'], by simp [h2], h3, h3.each⟩
  have HE := Lib.hid hE
  clear hD hD1 hL hlc hz hf hE hX
  go_enter Try.func25, Try.ntmps25
  go_upto_region 1 with fail
  rw [← hW1]
  obtain ⟨xb, hxb⟩ : ∃ xb, xb = w.heap.size := ⟨_, rfl⟩
  rw [← hxb] at x0 x1 ⊢
  clear hW1 hxb
  go_wp2_with fail
  with_reducible refine (HPT.out).mono ?_
  rintro e w2 h2
  obtain ⟨rfl, h4⟩ := HE.out e w2 h2
  have H4 := Lib.hid h4
  clear h2 h4
  go_wp2_with fail
  go_end0
  exact ⟨rfl, H4.out⟩
set_option maxRecDepth 100000 in
set_option maxHeartbeats 4000000 in
theorem change_off (w0 w : World) (base bb c a b : Nat) (vh : Value) (d : Int) (LA : Option Addr) (lc : Nat) (l : List Ln) (hD : Bd w0 w base bb vh c false a b [])
    (hL : LinesIn w0 LA l) (hlc : l.length ≤ lc) (hz : LA = none → lc = 0) (h3 : a ≤ 20000) (h4 : b ≤ 20000) (h5 : l.length ≤ 20000) (hc : c ≤ 100) :
    Calls Try.prog 25 #[.pointer (some ⟨bb, 0, none⟩), .agg #[.int .i64 d, .slice LA l.length lc]] w (OpEnd w0 base bb c (a + lenO d l) (b + lenN d l) true [putH d l (newH a b)]) := by
  obtain ⟨W1, hW1⟩ : ∃ W : World, W = w.alloc (.cells #[.int .i64 d, .slice LA l.length lc] 47) := ⟨_, rfl⟩
  have hX := heap_alloc_new w (.cells #[.int .i64 d, .slice LA l.length lc] 47)
  rw [← hW1] at hX
  have HX := Lib.hid hX
  have hD1 := hD.below (show Below w.heap.size w W1 by rw [hW1]; exact alloc1 _ _)
  have HBG := Lib.hid (begin_any w0 W1 base bb c a b vh false [] none 0 [] hD1 (fun h => absurd h (by simp)) (Nat.le_refl _) (fun _ => ⟨rfl, rfl⟩) (by simp) (by omega) (by omega) (by simp) (by omega))
  have co : W1.cell? ⟨bb, 2, none⟩ = some (.bool false) := L.blk_cell hD1.blk 2
  simp only [List.length_nil] at HBG
  have hE : ∀ w2, (∃ (vh : Value) (x' : Hr), x'.h = newH a b ∧ Bd w0 w2 base bb vh c true a b ([] ++ [x'])) → Calls Try.prog 40 #[.pointer (some ⟨bb, 0, none⟩), .int .i64 d, .slice LA l.length lc] w2 (OpEnd w0 base bb c (a + lenO d l) (b + lenN d l) true [putH d l (newH a b)]) := fun w2 ⟨vh2, x', h1, h2⟩ => by
    have hrl := h2.each x' (by simp)
    rw [h1] at hrl
    refine (put_any w0 w2 base bb c a b vh2 true [] x' d LA lc l h2 hL hlc hz (by simp) (by rw [hrl]; simp [newH]) (by omega) (by omega) (by omega) (by rw [h1]; simp [newH]) (by rw [h1]; simp [newH])).mono fun e w' h => ?_
    obtain ⟨h3, ⟨x2, h4, h5⟩, -⟩ := h
    exact ⟨h3, vh2, [x2], by simp [h4, h1], by simpa using h5, fun y hy => h5.each y (by simpa using hy)⟩
  have HE := Lib.hid hE
  have HBL := Lib.hid hD1.blk
  have HNV : Hid (vh.ownBlock ≠ some w.heap.size) := Lib.hid (own_type hD1.s.own hX (by decide))
  clear hD hD1 hL hlc hz hE hX
  have hxs : w.heap.size < W1.heap.size := L.blk_lt HX.out
  go_enter Try.func25, Try.ntmps25
  go_upto_region 1 with fail
  rw [← hW1]
  obtain ⟨xb, hxb⟩ : ∃ xb, xb = w.heap.size := ⟨_, rfl⟩
  rw [← hxb] at HX hxs HNV ⊢
  clear hW1 hxb
  go_wp2_with fail
  with_reducible refine (HBG.out).mono ?_
  rintro e w2 ⟨rfl, h23, hfr⟩
  have hX2 := (hfr rfl xb hxs (fun e => by rw [e] at HX; have := HX.out; rw [HBL.out] at this; injection this with this; injection this with _ this; exact absurd this (by decide)) HNV.out).trans HX.out
  have x0 := L.blk_cell hX2 0
  have x1 := L.blk_cell hX2 1
  simp only [List.getElem?_toArray, List.getElem?_cons_zero, List.getElem?_cons_succ] at x0 x1
  obtain ⟨vh2, x', h2, h3⟩ := h23
  have HP := Lib.hid (HE.out w2 ⟨vh2, x', by simpa [putH] using h2, by simpa using h3⟩)
  clear h2 h3 hfr hX2
  go_wp2_with fail
  with_reducible refine (HP.out).mono ?_
  rintro e w3 ⟨rfl, h4⟩
  have H4 := Lib.hid h4
  clear h4
  go_wp2_with fail
  go_end0
  exact ⟨rfl, H4.out⟩
end Go.Proofs.Ytimalohdchhjgaa.H

namespace Go.Proofs.Ytimalohdchhjgaa.H
set_option linter.unusedVariables false
set_option linter.unusedSimpArgs false
open Go.RowKit
open T S
open V (grown_of)
open I (alloc1 own_at own_below)
open N (Ln)

/-- What the builder holds behind k edits. -/
def BInv (c : Nat) (N : List Ed) (k : Nat) (op : Bool) (a b : Nat) (hs : List Hk) : Prop :=
  (k = 0 ∧ op = false ∧ a = 0 ∧ b = 0 ∧ hs = []) ∨
  (op = true ∧ ∃ ys h, hs = ys ++ [h] ∧ ys ++ hg c a b h (N.drop k) = bld c N ∧ ys.length ≤ k ∧ h.es.length ≤ 2 * k ∧ a ≤ tl (N.take k) ∧ b ≤ tl (N.take k) ∧ 0 ≤ h.o ∧ h.o ≤ tl (N.take k) ∧ 0 ≤ h.n ∧ h.n ≤ tl (N.take k)) ∨
  (k = N.length ∧ hs = bld c N)
theorem BInv.done {c : Nat} {N : List Ed} {op : Bool} {a b : Nat} {hs : List Hk} (h : BInv c N N.length op a b hs) : hs = bld c N := by
  rcases h with ⟨h1, -, -, -, rfl⟩ | ⟨-, ys, h, rfl, h2, -⟩ | ⟨-, h⟩
  · rw [List.length_eq_zero_iff.1 h1]; rfl
  · rw [List.drop_length] at h2; exact h2
  · exact h
theorem lenO_le (d : Int) (l : List Ln) : lenO d l ≤ l.length := by unfold lenO; split <;> omega
theorem lenN_le (d : Int) (l : List Ln) : lenN d l ≤ l.length := by unfold lenN; split <;> omega
theorem putH_eslen (d : Int) (l : List Ln) (h : Hk) : (putH d l h).es.length ≤ h.es.length + 1 := by unfold putH; split <;> simp
/-- The bounds of a hunk with an edit more. -/
theorem BInv.step {c : Nat} {N : List Ed} {k : Nat} (hk : k < N.length) {d : Int} {l : List Ln} (hl : l.length ≤ N[k].2.length) {ys : List Hk} {h : Hk} {a b a' b' : Nat} (hg1 : ys ++ hg c a' b' (putH d l h) (N.drop (k + 1)) = bld c N) (h1 : ys.length ≤ k + 1) (h2 : h.es.length ≤ 2 * k) (ha : a' ≤ a + N[k].2.length) (hb : b' ≤ b + N[k].2.length) (h3 : a ≤ tl (N.take k)) (h4 : b ≤ tl (N.take k)) (h5 : 0 ≤ h.o) (h6 : h.o ≤ tl (N.take k)) (h7 : 0 ≤ h.n) (h8 : h.n ≤ tl (N.take k)) :
    BInv c N (k + 1) true a' b' (ys ++ [putH d l h]) := by
  have ht := tl_take hk
  have e1 := lenO_le d l
  have e2 := lenN_le d l
  have e3 := putH_eslen d l h
  refine .inr (.inl ⟨rfl, ys, putH d l h, rfl, hg1, h1, by omega, by omega, by omega, ?_, ?_, ?_, ?_⟩)
  · rw [putH_o]; omega
  · rw [putH_o]; omega
  · rw [putH_n]; omega
  · rw [putH_n]; omega
def EdEnd (w0 : World) (base bb c : Nat) (N : List Ed) (k : Nat) (e : Ending) (w' : World) : Prop :=
  e = .returned (.tuple #[]) ∧ ∃ (vh : Value) (op : Bool) (a b : Nat) (xs : List Hr), Bd w0 w' base bb vh c op a b xs ∧ BInv c N k op a b (xs.map (·.h))
theorem OpEnd.to {w0 w' : World} {base bb c a b k : Nat} {op : Bool} {N : List Ed} {hs : List Hk} {e : Ending} (h : OpEnd w0 base bb c a b op hs e w') (hi : BInv c N k op a b hs) : EdEnd w0 base bb c N k e w' := by
  obtain ⟨h1, vh, xs, h2, h3, -⟩ := h
  exact ⟨h1, vh, op, a, b, xs, h3, by rw [h2]; exact hi⟩
theorem fits_of {ys : List Hr} {x : Hr} {c a b k : Nat} {N : List Ed} {l : List Ln} (hk : k < N.length) (hl : N[k].2 = l) (hN : N.length ≤ 800) (ht : tl N ≤ 800) (hrl : x.rs.length = x.h.es.length) (h1 : ys.length ≤ k) (h2 : x.h.es.length ≤ 2 * k) (h3 : a ≤ tl (N.take k)) (h4 : b ≤ tl (N.take k)) (h5 : 0 ≤ x.h.o) (h6 : x.h.o ≤ tl (N.take k)) (h7 : 0 ≤ x.h.n) (h8 : x.h.n ≤ tl (N.take k)) : Fits ys x a b l := by
  have e1 := tl_take hk
  have e2 := tl_le N (k + 1)
  rw [hl] at e1
  exact ⟨by omega, by omega, by omega, by omega, by omega, ⟨h5, by omega⟩, ⟨h7, by omega⟩⟩
theorem snoc_of_map {xs : List Hr} {ys : List Hk} {h : Hk} (e : xs.map (·.h) = ys ++ [h]) : ∃ ys' x, xs = ys' ++ [x] ∧ ys'.map (·.h) = ys ∧ x.h = h := by
  rcases List.eq_nil_or_concat xs with rfl | ⟨ys', x, rfl⟩
  · simp at e
  · rw [List.concat_eq_append, List.map_append, List.map_singleton] at e
    obtain ⟨e1, e2⟩ := List.append_inj' e rfl
    exact ⟨ys', x, List.concat_eq_append, e1, by simpa using e2⟩
theorem ed_stay (w0 w : World) (base bb c a b k : Nat) (vh : Value) (op : Bool) (xs : List Hr) (N : List Ed) (LA : Option Addr) (lc : Nat) (l : List Ln) (hk : k < N.length) (hNk : N[k] = (1, l)) (hn : Nf N) (hN : N.length ≤ 800) (ht : tl N ≤ 800)
    (hD : Bd w0 w base bb vh c op a b xs) (hi : BInv c N k op a b (xs.map (·.h))) (hL : LinesIn w0 LA l) (hlc : l.length ≤ lc) (hz : LA = none → lc = 0) (hc : c ≤ 20) :
    Calls Try.prog 24 #[.pointer (some ⟨bb, 0, none⟩), .slice LA l.length lc, .bool (decide (k + 1 < N.length))] w (EdEnd w0 base bb c N (k + 1)) := by
  have hdr : N.drop k = (1, l) :: N.drop (k + 1) := by rw [List.drop_eq_getElem_cons hk, hNk]
  have hl : l ≠ [] := by have := hn.full _ (List.getElem_mem hk); rw [hNk] at this; exact this
  have hl2 : N[k].2 = l := by rw [hNk]
  have hll : l.length ≤ 800 := by have := tl_take hk; have := tl_le N (k + 1); rw [hl2] at *; omega
  rcases hi with ⟨rfl, rfl, rfl, rfl, h5⟩ | ⟨rfl, ys, h, h2, h3, h4, h5, h6, h7, h8, h9, h10, h11⟩ | ⟨h, -⟩
  · obtain rfl : xs = [] := List.map_eq_nil_iff.1 h5
    rw [List.drop_zero] at hdr
    by_cases hm : 0 + 1 < N.length
    · rw [decide_eq_true hm]
      have hr : N.drop 1 ≠ [] := fun e => by have := congrArg List.length e; simp at this; omega
      have hb : bld c N = hg c l.length l.length (putH 1 (l.drop (l.length - c)) (newH (l.length - c) (l.length - c))) (N.drop 1) := by
        rw [Nat.zero_add] at hdr
        rw [hdr, bld, if_pos rfl, if_neg hr]
        simp
      refine (stay_begin w0 w base bb c 0 0 vh [] LA lc l hD hL hlc hl (by simp) (by omega) (by omega) (by omega) (by omega)).mono fun e w' h => h.to ?_
      simp only [Nat.zero_add, List.map_nil, List.nil_append] at *
      exact BInv.step (ys := []) hk (l := l.drop (l.length - c)) (d := 1) (h := newH (l.length - c) (l.length - c)) (a := 0) (b := 0) (by rw [hl2, List.length_drop]; omega) hb.symm (Nat.zero_le _) (by simp [newH]) (by rw [hl2]; omega) (by rw [hl2]; omega) (Nat.zero_le _) (Nat.zero_le _) (by simp [newH]) (by simp [newH]) (by simp [newH]) (by simp [newH])
    · rw [decide_eq_false hm]
      refine (stay_none w0 w base bb c 0 0 vh [] LA lc l.length hD).mono fun e w' h => h.to (.inr (.inr ⟨by omega, ?_⟩))
      have hr : N.drop 1 = [] := List.drop_eq_nil_of_le (by omega)
      rw [Nat.zero_add, hr] at hdr
      rw [hdr, bld, if_pos rfl, if_pos rfl]; rfl
  · obtain ⟨ys', x, rfl, rfl, rfl⟩ := snoc_of_map h2
    have hf := fits_of (c := c) (ys := ys') (x := x) hk hl2 hN ht (hD.each x (by simp)) (by simpa using h4) h5 h6 h7 h8 h9 h10 h11
    rw [hdr, hg, if_pos rfl] at h3
    by_cases hm : k + 1 < N.length
    · have hr : N.drop (k + 1) ≠ [] := fun e => by have := congrArg List.length e; simp at this; omega
      rw [decide_eq_true hm]
      rw [if_neg hr] at h3
      by_cases hle : l.length ≤ 2 * c
      · rw [if_pos hle] at h3
        exact (stay_put w0 w base bb c a b vh ys' x LA lc l hD hL hlc hz hf (by omega) hle).mono fun e w' h => h.to (BInv.step hk (by rw [hl2]; exact Nat.le_refl _) h3 (by omega) h5 (by rw [hl2]; exact Nat.le_refl _) (by rw [hl2]; exact Nat.le_refl _) h6 h7 h8 h9 h10 h11)
      · rw [if_neg hle] at h3
        refine (stay_cut w0 w base bb c a b vh ys' x LA lc l hD hL hlc hz hf (by omega) (by omega)).mono fun e w' h => h.to ?_
        have := BInv.step (ys := ys'.map (·.h) ++ [putH 1 (l.take c) x.h]) hk (l := l.drop (l.length - c)) (d := 1) (h := newH (a + (l.length - c)) (b + (l.length - c))) (a := a) (b := b) (a' := a + l.length) (b' := b + l.length) (c := c) (by rw [hl2, List.length_drop]; omega) (by rw [List.append_assoc]; exact h3) (by simp at h4 ⊢; omega) (by simp [newH]) (by rw [hl2]; omega) (by rw [hl2]; omega) h6 h7 (by simp [newH]) (by simp [newH]) (by simp [newH]) (by simp [newH])
        rw [List.append_assoc] at this
        exact this
    · rw [decide_eq_false hm]
      have hr : N.drop (k + 1) = [] := List.drop_eq_nil_of_le (by omega)
      rw [if_pos hr] at h3
      exact (stay_end w0 w base bb c a b vh ys' x LA lc l hD hL hlc hz hf hl).mono fun e w' h => h.to (.inr (.inr ⟨by omega, h3⟩))
  · omega
theorem ed_change (w0 w : World) (base bb c a b k : Nat) (vh : Value) (op : Bool) (xs : List Hr) (N : List Ed) (d : Int) (LA : Option Addr) (lc : Nat) (l : List Ln) (hk : k < N.length) (hNk : N[k] = (d, l)) (hd : d ≠ 1) (hN : N.length ≤ 800) (ht : tl N ≤ 800)
    (hD : Bd w0 w base bb vh c op a b xs) (hi : BInv c N k op a b (xs.map (·.h))) (hL : LinesIn w0 LA l) (hlc : l.length ≤ lc) (hz : LA = none → lc = 0) (hc : c ≤ 20) :
    Calls Try.prog 25 #[.pointer (some ⟨bb, 0, none⟩), .agg #[.int .i64 d, .slice LA l.length lc]] w (EdEnd w0 base bb c N (k + 1)) := by
  have hdr : N.drop k = (d, l) :: N.drop (k + 1) := by rw [List.drop_eq_getElem_cons hk, hNk]
  have hl2 : N[k].2 = l := by rw [hNk]
  have hll : l.length ≤ 800 := by have := tl_take hk; have := tl_le N (k + 1); rw [hl2] at *; omega
  have e1 := lenO_le d l
  have e2 := lenN_le d l
  rcases hi with ⟨rfl, rfl, rfl, rfl, h5⟩ | ⟨rfl, ys, h, h2, h3, h4, h5, h6, h7, h8, h9, h10, h11⟩ | ⟨h, -⟩
  · obtain rfl : xs = [] := List.map_eq_nil_iff.1 h5
    rw [List.drop_zero] at hdr
    have hb : bld c N = hg c (lenO d l) (lenN d l) (putH d l (newH 0 0)) (N.drop 1) := by
      rw [Nat.zero_add] at hdr
      rw [hdr, bld, if_neg hd]
      simp
    refine (change_off w0 w base bb c 0 0 vh d LA lc l hD hL hlc hz (by omega) (by omega) (by omega) (by omega)).mono fun e w' h => h.to ?_
    simp only [Nat.zero_add] at *
    exact BInv.step (ys := []) hk (l := l) (d := d) (h := newH 0 0) (a := 0) (b := 0) (by rw [hl2]; exact Nat.le_refl _) hb.symm (Nat.zero_le _) (by simp [newH]) (by rw [hl2]; omega) (by rw [hl2]; omega) (Nat.zero_le _) (Nat.zero_le _) (by simp [newH]) (by simp [newH]) (by simp [newH]) (by simp [newH])
  · obtain ⟨ys', x, rfl, rfl, rfl⟩ := snoc_of_map h2
    have hf := fits_of (c := c) (ys := ys') (x := x) hk hl2 hN ht (hD.each x (by simp)) (by simpa using h4) h5 h6 h7 h8 h9 h10 h11
    rw [hdr, hg, if_neg hd] at h3
    exact (change_on w0 w base bb c a b vh ys' x d LA lc l hD hL hlc hz hf).mono fun e w' h => h.to (BInv.step hk (by rw [hl2]; exact Nat.le_refl _) h3 (by omega) h5 (by rw [hl2]; omega) (by rw [hl2]; omega) h6 h7 h8 h9 h10 h11)
  · omega
def HnEnd (w : World) (hs : List Hk) (e0 : Int) (e : Ending) (w' : World) : Prop :=
  ∃ A cap, e = .returned (.tuple #[.slice A hs.length cap, .int .i64 e0]) ∧ HksIn 0 w' A hs ∧ Below w.heap.size w w'

set_option maxRecDepth 100000 in
set_option maxHeartbeats 4000000 in
theorem build_any (A : Option Addr) (cap b : Nat) (es : List Ed) (c : Int) (w : World) (hE : EdsIn b w A es) (hok : EdsOk es) :
    Calls Try.prog 10 #[.slice A es.length cap, .int .i64 c] w (HnEnd w (build es c).1 (build es c).2) := by
  have HC := Lib.hid (normal_any A cap b es w hE hok)
  clear hE
  by_cases hck : ck es = 0
  · rw [hck] at HC
    have hnm : nrm es = norm es := by unfold nrm; rw [if_pos hck]
    rw [hnm] at HC
    unfold build
    rw [if_pos hck]
    by_cases hcr : c < 0 ∨ 20 < c
    · rw [if_pos hcr]
      clear hok hnm hck
      go_enter Try.func10, Try.ntmps10
      rcases hcr with hcr | hcr
      · go_wp2_with fail
        with_reducible refine (HC.out).mono ?_
        rintro e w1 ⟨NA, ncap, rfl, -, hb1⟩
        go_wp2_with fail
        go_ret2
        exact ⟨none, 0, rfl, fun h => absurd h (by simp), hb1⟩
      · have hc0 : ¬ c < 0 := by omega
        go_wp2_with fail
        with_reducible refine (HC.out).mono ?_
        rintro e w1 ⟨NA, ncap, rfl, -, hb1⟩
        go_wp2_with fail
        go_ret2
        exact ⟨none, 0, rfl, fun h => absurd h (by simp), hb1⟩
    · rw [if_neg hcr]
      have hc0 : ¬ c < 0 := by omega
      have hc20 : ¬ (20 < c) := by omega
      obtain ⟨hn1, hn2, hn3, -⟩ := norm_ok hck
      obtain ⟨hnl, hnt, -⟩ := ck_ok hn1
      have hnf := nf_norm (ck_ok hck).2.2
      obtain ⟨cN, rfl⟩ : ∃ cN : Nat, c = (cN : Int) := ⟨c.toNat, by omega⟩
      rw [Int.toNat_natCast]
      have hc : cN ≤ 20 := by omega
      have HNF := Lib.hid hnf
      have HNT := Lib.hid hnt
      have HN3 := Lib.hid hn3
      generalize norm es = N at *
      clear hn1 hn2 hn3 hck hnm hok hcr hnf hnt
      simp only
      go_enter Try.func10, Try.ntmps10
      go_wp2_with fail
      with_reducible refine (HC.out).mono ?_
      rintro e w1 ⟨NA, ncap, rfl, hE1, hb1⟩
      have HE1 := Lib.hid hE1
      have HB1 := Lib.hid hb1
      obtain ⟨n, hn⟩ : ∃ n, n = N.length := ⟨_, rfl⟩
      have HNN := Lib.hid hn
      rw [← hn] at hnl
      rw [← hn]
      clear hE1 hb1 hn
      obtain ⟨W0, hW0⟩ : ∃ W : World, W = w1.alloc (.cells #[.int .i64 (cN : Int), .slice none 0 0, .bool false, .int .i64 0, .int .i64 0] 53) := ⟨_, rfl⟩
      have HD0 : Hid (Bd w1 W0 w1.heap.size w1.heap.size (.slice none 0 0) cN false 0 0 []) := Lib.hid ⟨Nat.le_refl _, by rw [hW0]; exact heap_alloc_new w1 _, ⟨World.ownsRow_nil _ _ _ _, fun x hx => by simp at hx, List.Pairwise.nil, by rw [hW0]; exact alloc1 _ _, Nat.le_refl _, by rw [hW0]; exact (alloc1 w1 _).size⟩⟩
      go_upto_region 7 with fail
      rw [← hW0]
      obtain ⟨bb, hbb⟩ : ∃ bb, bb = w1.heap.size := ⟨_, rfl⟩
      rw [← hbb] at HD0 ⊢
      have HBB := Lib.hid hbb
      clear hW0 hbb
      go_wp2_with fail
      go_loopg [29] n (fun m iv wr => ∃ (k : Nat) (vh : Value) (op : Bool) (a b : Nat) (xs : List Hr), k ≤ n ∧ iv = .int .i64 k ∧ n - k ≤ m ∧ Hid (Bd w1 wr bb bb vh cN op a b xs) ∧ Hid (BInv cN N k op a b (xs.map (·.h))))
      case atStart => exact ⟨0, _, _, _, _, _, Nat.zero_le _, rfl, by omega, HD0, Lib.hid (.inl ⟨rfl, rfl, rfl, rfl, rfl⟩)⟩
      case round =>
        clear HD0
        obtain ⟨k, vh, op, a, b, xs, hk, rfl, hmm, HD, HI⟩ := hrel
        by_cases hlt : k < n
        · have hkN : k < N.length := by have := HNN.out; omega
          obtain ⟨bk, off, hAe, -, hbk, hI⟩ := HE1.out (by omega)
          subst hAe
          obtain ⟨LA, lc, g0, g1, g2, g3, g4, -⟩ := hI k hkN
          have c0 := (HD.out.s.b.cell (p := ⟨bk, off + k * 2, none⟩) hbk).trans g0
          have c1 := (HD.out.s.b.cell (p := ⟨bk, off + k * 2 + 1, none⟩) hbk).trans g1
          have HES := Lib.hid (fun (W : World) (l : List Ln) (hl : N[k] = (1, l)) (hD : Bd w1 W bb bb vh cN op a b xs) (hL : LinesIn w1 LA l) (h3 : l.length ≤ lc) => ed_stay w1 W bb bb cN a b k vh op xs N LA lc l hkN hl HNF.out (by have := HNN.out; omega) HNT.out hD HI.out hL h3 g4 hc)
          have HEC := Lib.hid (fun (W : World) (d : Int) (l : List Ln) (hl : N[k] = (d, l)) (hd : d ≠ 1) (hD : Bd w1 W bb bb vh cN op a b xs) (hL : LinesIn w1 LA l) (h3 : l.length ≤ lc) => ed_change w1 W bb bb cN a b k vh op xs N d LA lc l hkN hl hd (by have := HNN.out; omega) HNT.out hD HI.out hL h3 g4 hc)
          have HL := Lib.hid (And.intro g2 g3)
          have hdc : decide (k + 1 < N.length) = decide ((k : Int) < (n : Int) - 1) := by
            have := HNN.out
            by_cases q : k + 1 < N.length
            · rw [decide_eq_true q, decide_eq_true (by omega)]
            · rw [decide_eq_false q, decide_eq_false (by omega)]
          rw [hdc] at HES
          have hwn : IntKind.i64.wrap ((n : Int) - 1) = (n : Int) - 1 := by rw [IntKind.wrap_i64]; omega
          generalize N[k] = e at *
          obtain ⟨d, l⟩ := e
          simp only at c0 c1 HL
          obtain ⟨W1, hW1⟩ : ∃ W : World, W = wr.alloc (.cells #[.int .i64 d, .slice LA l.length lc] 47) := ⟨_, rfl⟩
          have hX := heap_alloc_new wr (.cells #[.int .i64 d, .slice LA l.length lc] 47)
          rw [← hW1] at hX
          have x0 := L.blk_cell hX 0
          have x1 := L.blk_cell hX 1
          simp only [List.getElem?_toArray, List.getElem?_cons_zero, List.getElem?_cons_succ] at x0 x1
          have HD1 := Lib.hid (HD.out.below (show Below wr.heap.size wr W1 by rw [hW1]; exact alloc1 _ _))
          have h0k : (0 : Int) ≤ (k : Int) := by omega
          have hki : (k : Int) < (n : Int) := by omega
          have hc' : ∀ e w', EdEnd w1 bb bb cN N (k + 1) e w' → e = .returned (.tuple #[]) ∧ ∃ (vh : Value) (op : Bool) (a b : Nat) (xs : List Hr), Hid (Bd w1 w' bb bb vh cN op a b xs) ∧ Hid (BInv cN N (k + 1) op a b (xs.map (·.h))) := fun e w' h => by
            obtain ⟨h1, vh, op, a, b, xs, h2, h3⟩ := h
            exact ⟨h1, vh, op, a, b, xs, Lib.hid h2, Lib.hid h3⟩
          have HCE := Lib.hid hc'
          clear hI g0 g1 g2 g3 g4 hX hc' HI HD hdc
          by_cases hd : d = 1
          · subst hd
            have HS := Lib.hid (HES.out W1 l rfl HD1.out HL.out.1 HL.out.2)
            clear HES HEC
            go_upto_region 10 with fail
            rw [← hW1]
            obtain ⟨xb, hxb⟩ : ∃ xb, xb = wr.heap.size := ⟨_, rfl⟩
            rw [← hxb] at x0 x1 ⊢
            clear hW1 hxb
            go_wp2_with fail
            with_reducible refine (HS.out).mono ?_
            rintro e w3 h3
            obtain ⟨rfl, vh2, op2, a2, b2, xs2, HD2, HI2⟩ := HCE.out e w3 h3
            clear h3 HCE HD1 x0 x1 c0 c1
            go_wp2_with fail
            go_roundg (n - (k + 1))
            case rel => exact ⟨k + 1, vh2, op2, a2, b2, xs2, by omega, by go_num, Nat.le_refl _, HD2, HI2⟩
            case measure => omega
          · have hd1 : (d == 1) = false := beq_eq_false_iff_ne.2 hd
            have HS := Lib.hid (HEC.out W1 d l rfl hd HD1.out HL.out.1 HL.out.2)
            clear HES HEC
            go_upto_region 10 with fail
            rw [← hW1]
            obtain ⟨xb, hxb⟩ : ∃ xb, xb = wr.heap.size := ⟨_, rfl⟩
            rw [← hxb] at x0 x1 ⊢
            clear hW1 hxb
            go_wp2_with fail
            with_reducible refine (HS.out).mono ?_
            rintro e w3 h3
            obtain ⟨rfl, vh2, op2, a2, b2, xs2, HD2, HI2⟩ := HCE.out e w3 h3
            clear h3 HCE HD1 x0 x1 c0 c1
            go_wp2_with fail
            go_roundg (n - (k + 1))
            case rel => exact ⟨k + 1, vh2, op2, a2, b2, xs2, by omega, by go_num, Nat.le_refl _, HD2, HI2⟩
            case measure => omega
        · obtain rfl : k = n := by omega
          have hres : xs.map (·.h) = bld cN N := by have := HI.out; rw [HNN.out] at this; exact this.done
          have HR := Lib.hid hres
          obtain ⟨hA, hcap, rfl, -, -⟩ := own_form HD.out.s.own
          have cv : wr.cell? ⟨bb, 1, none⟩ = some (.slice hA xs.length hcap) := L.blk_cell HD.out.blk 1
          have HFIN := Lib.hid (And.intro HD.out.s.read.2.2 (HB1.out.trans (HD.out.s.b.mono HB1.out.size)))
          clear hres HD HI hmm hlt
          go_wp2_with fail
          go_ret2
          exact ⟨hA, hcap, by rw [← HR.out, List.length_map]; rfl, by rw [← HR.out]; exact HFIN.out.1, HFIN.out.2⟩
  · have hnm : nrm es = [] := by unfold nrm; rw [if_neg hck]
    rw [hnm] at HC
    unfold build
    rw [if_neg hck]
    clear hok hnm
    generalize ck es = q at *
    have h0 : (q == 0) = false := beq_eq_false_iff_ne.2 hck
    have h1 : (q != 0) = true := by simp [bne, h0]
    go_enter Try.func10, Try.ntmps10
    go_wp2_with fail
    with_reducible refine (HC.out).mono ?_
    rintro e w1 ⟨NA, ncap, rfl, -, hb1⟩
    go_wp2_with fail
    go_ret2
    exact ⟨none, 0, rfl, fun h => absurd h (by simp), hb1⟩
end Go.Proofs.Ytimalohdchhjgaa.H
