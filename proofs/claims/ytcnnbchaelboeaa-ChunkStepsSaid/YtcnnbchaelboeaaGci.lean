/-
  A range over a function whose iterator keeps a variable of its own in memory between two rounds: what the caller keeps must not speak of blocks of that variable's type that came up since the loop began.
  A range over chunks: the iterator's contract.
-/
import Derived.RangeFuncNested
import Derived.RangeFuncBox
import Derived.RangeFuncCalls
import Derived.RangeFuncLeaves
import Derived.OwnWalkIn
import Derived.Deep.AppendLies
import Derived.Test.YtcnnbchaelboeaaGch
namespace Go.Proofs.Ytcnnbchaelboeaa.V
set_option linter.unusedVariables false
set_option linter.unusedSimpArgs false
open Go.RowKit

/-- Stores into blocks of type T from B on change nothing of what is kept. -/
def CalmAt {β : Type} (B : Nat) (T : TypeId) (J : β → World → Prop) : Prop := ∀ s (X : World) (p : Addr) u, J s X → B ≤ p.block → (∃ cs f, X.heap[p.block]? = some (.cells cs T f)) → J s (X.setCell p u)
/-- What an iterator with a variable of type T does for a loop that is never left: all of S come, and what is kept is kept. -/
def Tells {α : Type} (n : Nat) (P : Program) (gf : Nat) (lb : Array Value) (enc : α → Array Value) (Kp : World → World → Prop) (S : List α → Prop) (N : Nat) (T : TypeId) (w : World) : Prop :=
  ∀ (l : Nat) (J : List α → World → Prop) (W : World), Below w.heap.size w W → AbidesFrom W.heap.size J → CalmAt W.heap.size T J →
    (∀ pre x W1, J pre W1 → pre.length < N → YieldAt Fence.wide (n - 1) P l (enc x) W1 fun e W' => e = .returned (.bool true) ∧ J (pre ++ [x]) W' ∧ Kp W1 W') →
    J [] W → CallsIn Fence.wide n P gf (#[.func (.yield l) #[] #[]] ++ lb) W fun e W' => (∃ v, e = .returned v) ∧ ∃ xs, S xs ∧ J xs W'

theorem cells_not {o : Obj} {cs : Array Value} {T : TypeId} {f : Nat × Nat} (h : o = .cells cs T f) : o.isCells = true := by subst h; rfl
theorem set_keeps {X : World} {p : Addr} {u : Value} {k : Nat} {o : Obj} (hk : X.heap[k]? = some o) (ho : o.isCells = false) (hp : ∃ cs T f, X.heap[p.block]? = some (.cells cs T f)) : (X.setCell p u).heap[k]? = some o := by
  obtain ⟨cs, T, f, hp⟩ := hp
  rw [Below.heap_setCell X p u k (fun e => by rw [← e, hk] at hp; injection hp with hp; rw [hp] at ho; cases ho)]
  exact hk

theorem range_cells {α : Type} {n : Nat} {P : Program} {g : Operand} {ps : Array Tmp} {assign body : Code} {Q : Exit → Act → World → Prop} {a : Act} {w : World} (hn : 1 ≤ n) {gf : Nat} {lb : Array Value} (hg : a.eval g = .func (.func gf) #[] lb) (eg : ∀ args w, (callFunc gf args).run P w = .ok (.enter gf args) w)
    {enc : α → Array Value} {Kp : World → World → Prop} {S : List α → Prop} {N : Nat} {T : TypeId} (hseq : Tells (n - 1) P gf lb enc Kp S N T w)
    (hKt : ∀ {A B C : World}, Kp A B → Kp B C → Kp A C) (hKb : ∀ (W : World) (l : Nat) (o o' : Obj), w.heap.size ≤ l → W.heap[l]? = some o → o.isCells = false → Kp W (W.putObj l o')) (hps : ∀ x, (enc x).size = ps.size)
    (I : List α → World → Prop) (hI : OwnFrom w.heap.size I) (hS : CalmAt w.heap.size T I) (h0 : I [] w) (Ax : α → Act → World → Prop) (hAx : ∀ x a', OwnFrom w.heap.size (fun (_ : Unit) W => Ax x a' W))
    (hassign : ∀ (l : Nat) (pre : List α) (x : α) (W : World) (K : Act → World → Prop), I pre W → (∀ a' W', KeepsFrom w.heap.size W W' → Kp W W' → I pre W' → Ax x a' W' → K a' W') →
      assign.wpIn (Fence.wide.inRound l) (n - 1 - 1) P (Exit.then K (fun _ _ _ => False)) { tmps := (ps.zip (enc x)).foldl (fun t (p, v) => t.setIfInBounds p v) a.tmps, defers := [] } W)
    (hbody : ∀ (l : Nat) (pre : List α) (x : α) (a' : Act) (W : World), I pre W → Ax x a' W → pre.length < N → body.wpIn (Fence.wide.inRound l) (n - 1 - 1) P (ownPostG w.heap.size Kp I (fun _ _ _ => False) (pre ++ [x]) W) a' W)
    (hdone : ∀ (D : Nat) (xs : List α) (W : World), w.heap.size ≤ D → S xs → I xs W → W.heap[D]? = some (.deferred (some [])) → Q .normal { a with defers := { target := .collected D, args := #[] } :: a.defers } W) :
    (Code.rangeFunc g ps assign body).wpIn Fence.wide n P Q a w := by
  refine wpIn_rangeFunc fun fn hfn => ?_
  let rc : LoopState → Loop := fun st => { state := st, pending := none, fn := fn, tmps := a.tmps, params := ps, assign := assign, body := body, defers := w.heap.size }
  let W1 : World := (w.alloc (.deferred (some []))).alloc (.loop (rc .ready))
  have hz : W1.heap.size = w.heap.size + 1 + 1 := by simp [W1]
  have hb : Below w.heap.size w W1 := ((Below.refl _ w).alloc (Nat.le_refl _) _).alloc (by simp) _
  have hL : W1.heap[w.heap.size + 1]? = some (.loop (rc .ready)) := by
    have := World.alloc_heap_new (w.alloc (.deferred (some []))) (.loop (rc .ready))
    rwa [World.size_alloc] at this
  have hD : W1.heap[w.heap.size]? = some (.deferred (some [])) := (Below.heap_alloc _ _ _ (by simp)).trans (World.alloc_heap_new w _)
  have hJ : AbidesFrom W1.heap.size (fun pre W => I pre W ∧ W.heap[w.heap.size + 1]? = some (.loop (rc .ready)) ∧ W.heap[w.heap.size]? = some (.deferred (some []))) := fun s X Y row hs hgr hr =>
    ⟨hI s X Y row hs.1 hgr (fun r e => by obtain ⟨hB, o, ho, hw⟩ := hr r e; exact ⟨by omega, o, ho, Obj.not_cells_of_walk hw⟩), (grownBy_keeps hgr (fun r e => (hr r e).2) hs.2.1 rfl).trans hs.2.1, (grownBy_keeps hgr (fun r e => (hr r e).2) hs.2.2 rfl).trans hs.2.2⟩
  have hC : CalmAt W1.heap.size T (fun pre W => I pre W ∧ W.heap[w.heap.size + 1]? = some (.loop (rc .ready)) ∧ W.heap[w.heap.size]? = some (.deferred (some []))) := fun s X p u hs hp hc => by
    have hc' : ∃ cs T f, X.heap[p.block]? = some (.cells cs T f) := by obtain ⟨cs, f, h⟩ := hc; exact ⟨cs, T, f, h⟩
    exact ⟨hS s X p u hs.1 (by omega) hc, set_keeps hs.2.1 rfl hc', set_keeps hs.2.2 rfl hc'⟩
  refine ⟨w.heap.size + 1, [{ target := .collected w.heap.size, args := #[] }], W1, { target := .fn (.func gf) lb, args := #[.func (.yield (w.heap.size + 1)) #[] #[]] }, W1, gf, #[.func (.yield (w.heap.size + 1)) #[] #[]] ++ lb, W1, run_enterLoop_outer _ _ _ _ _, ?_, fun _ _ => trivial, ?_, fun _ => hn, ?_⟩
  · simp only [resolve, hg]
    simp [go_sem]
  · simp [invoke, go_sem, eg]
  refine (hseq (w.heap.size + 1) _ W1 hb hJ hC ?_ ⟨hI.alloc _ (hI.alloc _ h0), hL, hD⟩).mono ?_
  · rintro pre x W ⟨hi, hl, hd⟩ hlen
    refine ⟨fn, _, assign, body, run_yield hl (hps x), roundIn_of_wpIn hfn (hassign _ pre x W _ hi fun a' X hk1 hk2 hi2 hax => ?_)⟩
    have hl2 := hk1.same _ _ (by omega) hl rfl
    have hd2 := hk1.same _ _ (Nat.le_refl _) hd rfl
    have hlt := (Array.getElem?_eq_some_iff.1 hl2).1
    refine ⟨_, run_beginRound hl2 rfl, ?_⟩
    have hl3 : (X.putObj (w.heap.size + 1) (.loop (rc .busy))).heap[w.heap.size + 1]? = some (.loop (rc .busy)) := World.putObj_heap_same hlt
    have hd3 : (X.putObj (w.heap.size + 1) (.loop (rc .busy))).heap[w.heap.size]? = some (.deferred (some [])) := (World.putObj_heap_other (by omega)).trans hd2
    refine wpIn_mono (hbody _ pre x a' (X.putObj (w.heap.size + 1) (.loop (rc .busy))) (hI.putObj _ hi2 (by omega) hl2 rfl) ((hAx x a').putObj (s := ()) _ hax (by omega) hl2 rfl) hlen) ?_
    intro e a3 Y hp
    cases e with
    | normal =>
      obtain ⟨hk3, hk4, hi3⟩ := hp
      have hl4 := hk3.same _ _ (by omega) hl3 rfl
      have hd4 := hk3.same _ _ (Nat.le_refl _) hd3 rfl
      refine ⟨_, _, run_endRound none hl4, rfl, ⟨hI.putObj _ hi3 (by omega) hl4 rfl, World.putObj_heap_same (Array.getElem?_eq_some_iff.1 hl4).1, (World.putObj_heap_other (by omega)).trans hd4⟩, ?_⟩
      exact hKt hk2 (hKt (hKb X _ _ _ (by omega) hl2 rfl) (hKt hk4 (hKb Y _ _ _ (by omega) hl4 rfl)))
    | ret => exact hp.2.elim
    | exit id => exact hp.2.elim
    | goto t => exact hp.2.elim
    | panic ch => exact hp.elim
    | outgrown => exact hp.elim
  · rintro e Y ⟨⟨v, rfl⟩, xs, hs, hi, hl, hd⟩
    exact ⟨none, _, run_endLoop hl (by simp [rc]), hdone _ xs _ (Nat.le_refl _) hs (hI.putObj _ hi (by omega) hl rfl) ((World.putObj_heap_other (by omega)).trans hd)⟩

/-- append onto a row of one's own, inside a round: and where the new row lies. -/
theorem wpListIn_lies {F : Fence} {n : Nat} {P : Program} (w : World) {ops : Array Oper} {rest : List Oper} {o : Oper} {a : Act} {Q : Exit → Act → World → Prop} (hgd : o.guard = none) (s x : Operand) (t : TypeId)
    (ho : o.op = .call { callee := .builtin .append, args := #[s, x], argTypes := #[t, t] }) (base : Nat) (e : TypeId) (i : TypeInfo) (z : Value) (size bytes : Nat) (ht : P.underlying t = some (.slice e)) (hi : P.info? e = some i) (hz : i.zero = some z)
    (hsize : i.size = size) (hby : i.bytes = bytes) (hzs : z.cells.size = size) (hsz : 0 < size) (v : Value) (k : Nat) (xs : List Value) (hs : a.eval s = v) (hown : w.ownsRow base e size v k xs)
    (ad : Addr) (m c : Nat) (news : List Value) (hx : a.eval x = .slice (some ad) m c) (hl : news.length = m * size) (hnews : ∀ j u, news[j]? = some u → w.cell? (ad.add j) = some u) (h1 : ∀ u ∈ news, u.oneCell' = true)
    (hm : 0 < m) (h63 : k + m ≤ maxLen) (hbytes : (k + m) * bytes ≤ 140737488355328) (hbase : base ≤ w.heap.size)
    (h : ∀ g cap w', w'.ownsRow base e size (.slice (some ⟨g, 0, none⟩) (k + m) cap) (k + m) (xs ++ news) → w.grownBy w' v.ownBlock → (v.ownBlock = some g ∨ g = w.heap.size) → g < w'.heap.size → wpListIn F n P ops Q rest (a.put o.dst (.slice (some ⟨g, 0, none⟩) (k + m) cap)) w') : wpListIn F n P ops Q (o :: rest) a w := by
  refine wpListIn_plain hgd fun K hK => ?_
  obtain ⟨g, cap, w', hr, h2, h3, h4, h5⟩ := run_append_lies (P := P) w t o.type base e i z size bytes ht hi hz hsize hby hzs hsz v k xs hown ad m c news hl hnews h1 hm h63 hbytes hbase _ rfl
  refine ⟨by simp [Oper.about, ho, resolve, Target.leads, Sem.run_pure], ?_⟩
  rw [Oper.semAt_plain F _ _ (fun c' hc => by rw [ho] at hc; cases hc)]
  simp [execOp, ho, resolve, invoke, builtin, hs, hx, hr, Result.andThen]
  exact hK _ _ (h g cap w' h2 h3 h4 h5)
end Go.Proofs.Ytcnnbchaelboeaa.V

namespace Go.Proofs.Ytcnnbchaelboeaa.Ck
set_option linter.unusedVariables false
set_option linter.unusedSimpArgs false
open Go.RowKit Go.Shelf
open T
open Mt (Pr fnd Rt right)
open N (PrIn PrIn.below)
open V (drawn_below grown_of boxed_le Tells CalmAt)
open I (alloc1)
attribute [local go_sem] Oper.semAt_some

/-- The row that the box at X holds lies in block g. -/
def Ex (X : Nat) (W : World) (g : Nat) : Prop := ∃ v, W.cell? ⟨X, 0, none⟩ = some v ∧ v.ownBlock = some g
/-- What a round keeps: what lies below n0; places, rows of pairs, and chunks that are not in the row of the box at X. -/
structure KpX (n₀ X : Nat) (A B : World) : Prop where
  b : Below n₀ A B
  z : A.heap.size ≤ B.heap.size
  s : ∀ k cs t, A.heap[k]? = some (.cells cs t (0, 0)) → (t = 47 ∨ t = 22 ∨ (t = 35 ∧ ¬ Ex X A k)) → B.heap[k]? = A.heap[k]?
  x : ∀ g, Ex X B g → Ex X A g ∨ (A.heap.size ≤ g ∧ g < B.heap.size)
theorem KpX.t {n₀ X : Nat} {A B C : World} (h : KpX n₀ X A B) (k : KpX n₀ X B C) : KpX n₀ X A C := by
  refine ⟨h.b.trans k.b, Nat.le_trans h.z k.z, fun i cs t hi ht => ?_, fun g hg => ?_⟩
  · have h1 := h.s i cs t hi ht
    refine (k.s i cs t (h1.trans hi) ?_).trans h1
    rcases ht with ht | ht | ⟨ht, hx⟩
    · exact .inl ht
    · exact .inr (.inl ht)
    · refine .inr (.inr ⟨ht, fun hx' => ?_⟩)
      rcases h.x i hx' with h2 | h2
      · exact hx h2
      · have := L.blk_lt hi; omega
  · rcases k.x g hg with h1 | h1
    · rcases h.x g h1 with h2 | h2
      · exact .inl h2
      · exact .inr ⟨h2.1, Nat.lt_of_lt_of_le h2.2 k.z⟩
    · exact .inr ⟨Nat.le_trans h.z h1.1, h1.2⟩
theorem Ex.old {X g : Nat} {A B : World} (hx : X < A.heap.size) (hb : Below A.heap.size A B) (h : Ex X B g) : Ex X A g := by
  obtain ⟨v, h1, h2⟩ := h
  exact ⟨v, (hb.cell (p := ⟨X, 0, none⟩) hx).symm.trans h1, h2⟩
theorem KpX.of {n₀ X : Nat} {A B : World} (hb : Below A.heap.size A B) (hn : n₀ ≤ A.heap.size) (hx : X < A.heap.size) : KpX n₀ X A B :=
  ⟨hb.mono hn, hb.size, fun k cs t hk _ => hb.block k (L.blk_lt hk), fun g hg => .inl (hg.old hx hb)⟩
theorem KpX.put {n₀ X : Nat} {w : World} (hn : n₀ ≤ w.heap.size) (hx : X < w.heap.size) (W : World) (l : Nat) (o o' : Obj) (hl : w.heap.size ≤ l) (h : W.heap[l]? = some o) (h1 : o.isCells = false) : KpX n₀ X W (W.putObj l o') := by
  have hg := grownBy_putObj' W l o'
  have hlt := (Array.getElem?_eq_some_iff.1 h).1
  refine ⟨(Below.refl n₀ W).grown hg (by omega) (fun k e => by cases e; omega), hg.size, fun k cs t hk _ => hg.block k (L.blk_lt hk) (fun e => ?_), fun g hx' => .inl ?_⟩
  · injection e with e
    rw [e, h] at hk
    injection hk with hk
    rw [hk] at h1; cases h1
  · obtain ⟨v, e1, e2⟩ := hx'
    refine ⟨v, ?_, e2⟩
    rw [World.cell?_of_block (a := ⟨X, 0, none⟩) (hg.block X (by omega) (fun e => by injection e with e; omega))] at e1
    exact e1


theorem KpX.own {n₀ X : Nat} {W A : World} {p : Addr} (h : KpX n₀ X W A) (hX : X < W.heap.size) (hn : n₀ ≤ W.heap.size) (hp : W.heap.size ≤ p.block) (u : Value) : KpX n₀ X W (A.setCell p u) := by
  refine ⟨h.b.setCell (by omega) u, by simpa using h.z, fun k cs t hk ht => (Below.heap_setCell A p u k (fun e => by have := L.blk_lt hk; omega)).trans (h.s k cs t hk ht), fun g hg => ?_⟩
  obtain ⟨v, e1, e2⟩ := hg
  rw [World.cell?_of_block (a := ⟨X, 0, none⟩) (Below.heap_setCell A p u X (fun e => by omega))] at e1
  rcases h.x g ⟨v, e1, e2⟩ with h1 | h1
  · exact .inl h1
  · exact .inr ⟨h1.1, by simpa using h1.2⟩
theorem cnext_call (n : Nat) (A B : Option Addr) (ca cb : Nat) (p q : List Pr) (t e : Tr) (w : World) (h : Fine p q) (hA : PrIn w A p) (hB : PrIn w B q) (ht : Okt t) (he : Okt e) :
    CallsIn Fence.wide n Try.prog 27 #[.slice A p.length ca, .slice B q.length cb, trV t, trV e] w fun r w' => r = .returned (ckV (step p q e t)) ∧ Below w.heap.size w w' := callsIn_wide.2 (cnext_any A B ca cb p q t e w h hA hB ht he)
theorem okt_le {t e : Tr} (h0 : 0 ≤ t.1 ∧ 0 ≤ t.2.1 ∧ 0 ≤ t.2.2) (h : Le3 t e) (he : Okt e) : Okt t := ⟨⟨h0.1, Int.le_trans h.1 he.1.2⟩, ⟨h0.2.1, Int.le_trans h.2.1 he.2.1.2⟩, ⟨h0.2.2, Int.le_trans h.2.2 he.2.2.2⟩⟩
def left3 (e : Tr) : Option Obj → Nat
  | some (.cells cs _ _) => match cs.toList with
    | [.int _ a, .int _ b, .int _ c] => fu e (a, b, c)
    | _ => 0
  | _ => 0
theorem left3_at (e t : Tr) : left3 e (some (.cells #[.int .i64 t.1, .int .i64 t.2.1, .int .i64 t.2.2] 47 (0, 0))) = fu e t := rfl
set_option maxRecDepth 100000 in
set_option maxHeartbeats 4000000 in
/-- The iterator's closure, for every loop body that keeps what KpX says. -/
theorem walk1_in (n : Nat) (hn : 6 ≤ n) (lp Be Ba Bb X n₀ ca cb N : Nat) (A B : Option Addr) (p q : List Pr) (en : Tr) (hf : Fine p q) (hp : Rt p en.1 en.2.1) (hq : Rt q en.1 en.2.2) (hen : Okt en) (hen0 : Le3 (0, 0, 0) en) (hN : (walk p q en (0, 0, 0)).length ≤ N)
    (J : List Ck → World → Prop) (W : World) (hJ : AbidesFrom W.heap.size J) (hC : CalmAt W.heap.size 47 J)
    (hY : ∀ pre x W, J pre W → pre.length < N → YieldAt Fence.wide (n - 1) Try.prog lp #[ckV x] W fun e W' => e = .returned (.bool true) ∧ J (pre ++ [x]) W' ∧ KpX n₀ X W W')
    (hn₀ : n₀ ≤ W.heap.size) (hX : X < W.heap.size) (hXn : ∀ g, ¬ Ex X W g) (hBe : W.heap[Be]? = some (.cells #[.int .i64 en.1, .int .i64 en.2.1, .int .i64 en.2.2] 47 (0, 0))) (hBa : W.heap[Ba]? = some (.cells #[.slice A p.length ca] 22 (0, 0))) (hBb : W.heap[Bb]? = some (.cells #[.slice B q.length cb] 22 (0, 0)))
    (hA : PrLow W n₀ A p) (hB : PrLow W n₀ B q) (h0 : J [] W) :
    CallsIn Fence.wide n Try.prog 26 #[.func (.yield lp) #[] #[], .pointer (some ⟨Be, 0, none⟩), .pointer (some ⟨Ba, 0, none⟩), .pointer (some ⟨Bb, 0, none⟩)] W fun e W' => (∃ v, e = .returned v) ∧ ∃ ys : List Ck, ys = walk p q en (0, 0, 0) ∧ J ys W' := by
  have h1n : 1 ≤ n := by omega
  obtain ⟨s, hs⟩ : ∃ s, s = W.heap.size := ⟨_, rfl⟩
  obtain ⟨W1, hW1⟩ : ∃ Z : World, Z = W.alloc (.cells #[.int .i64 0, .int .i64 0, .int .i64 0] 47) := ⟨_, rfl⟩
  have hb1 : Below W.heap.size W W1 := by rw [hW1]; exact alloc1 _ _
  have hx1 : W1.heap[s]? = some (.cells #[.int .i64 0, .int .i64 0, .int .i64 0] 47 (0, 0)) := by rw [hW1, hs]; exact heap_alloc_new W _
  have hJ1 : J [] W1 := hJ _ _ _ none h0 (grown_of hb1 none) (fun r e => by cases e)
  have hK1 : KpX n₀ X W W1 := KpX.of hb1 hn₀ hX
  have hsz1 : W1.heap.size = s + 1 := by rw [hW1, hs]; simp
  obtain ⟨e0, e1, e2⟩ := en
  refine callsIn_of_wp Try.func26 rfl trivial ?_ rfl
  simp only [Try.ntmps26, List.size_toArray, List.length_cons, List.length_nil, Nat.reduceAdd, Nat.reduceSub, Array.replicate_succ, Array.replicate_zero, List.push_toArray, List.append_toArray, List.nil_append, List.cons_append]
  gi_wp2
  rw [← hW1, ← hs]
  have hss : W.heap.size ≤ s := by omega
  have hss' : s ≤ W.heap.size := by omega
  clear hW1 hs
  gi_loopw [6] (fun x6 wr => ∃ (t : Tr) (pre : List Ck), J pre wr ∧ KpX n₀ X W wr ∧ s + 1 ≤ wr.heap.size ∧ (∀ g, Ex X wr g → g < wr.heap.size) ∧ wr.heap[s]? = some (.cells #[.int .i64 t.1, .int .i64 t.2.1, .int .i64 t.2.2] 47 (0, 0)) ∧ (0 ≤ t.1 ∧ 0 ≤ t.2.1 ∧ 0 ≤ t.2.2) ∧ Le3 t (e0, e1, e2) ∧ Hid (walk p q (e0, e1, e2) (0, 0, 0) = pre ++ walk p q (e0, e1, e2) t))
    (fun x6 wr => left3 (e0, e1, e2) (wr.heap[s]?))
  case atStart => exact ⟨(0, 0, 0), [], hJ1, hK1, by omega, fun g hg => absurd (hg.old hX hb1) (hXn g), hx1, ⟨Int.le_refl _, Int.le_refl _, Int.le_refl _⟩, hen0, Lib.hid rfl⟩
  case round =>
    obtain ⟨t, pre, hJs, hkp, hsz, hvx, hat, htp, hle, HW⟩ := hrel
    have HAT := Lib.hid hat
    obtain ⟨t0, t1, t2⟩ := t
    have x0 := L.blk_cell hat 0
    have x1 := L.blk_cell hat 1
    have x2 := L.blk_cell hat 2
    have gE := (hkp.s Be _ _ hBe (.inl rfl)).trans hBe
    have y0 := L.blk_cell gE 0
    have y1 := L.blk_cell gE 1
    have y2 := L.blk_cell gE 2
    have a0 := boxed_cell ((hkp.s Ba _ _ hBa (.inr (.inl rfl))).trans hBa)
    have b0 := boxed_cell ((hkp.s Bb _ _ hBb (.inr (.inl rfl))).trans hBb)
    simp only [List.getElem?_toArray, List.getElem?_cons_zero, List.getElem?_cons_succ] at x0 x1 x2 y0 y1 y2
    have hq1 := fun w => tr_eqIn w t0 t1 t2 e0 e1 e2
    clear gE hat
    by_cases ht : ((t0, t1, t2) : Tr) = (e0, e1, e2)
    · have HE := Lib.hid (show walk p q (e0, e1, e2) (0, 0, 0) = pre by rw [HW.out, ht, walk_end, List.append_nil])
      rw [decide_eq_true ht] at hq1
      clear ht
      gi_wp2
      go_end0
      exact ⟨⟨_, rfl⟩, by rw [HE.out]; exact hJs⟩
    · rw [decide_eq_false ht] at hq1
      have hst := step_ok hp hq hle ht
      have HWS := Lib.hid (walk_step hp hq hle ht)
      have hok : Okt (t0, t1, t2) := okt_le htp hle hen
      have HCN := Lib.hid (fun m => cnext_call m A B ca cb p q (t0, t1, t2) (e0, e1, e2) wr hf ((hA.kept hkp.b).prIn (by omega)) ((hB.kept hkp.b).prIn (by omega)) hok hen)
      obtain ⟨c, hc⟩ : ∃ c, c = step p q (e0, e1, e2) (t0, t1, t2) := ⟨_, rfl⟩
      rw [← hc] at HCN HWS hst
      clear hc
      obtain ⟨cst, co, con, cca, can, ccb, cbn⟩ := c
      have hfu := hst.fu
      obtain ⟨⟨h1, h2, h3⟩, h4, h5, h6, h7, h8, h9, h10⟩ := hst
      simp only [beh] at h1 h2 h3 h4 h5 h6 h8 h9 h10 hfu
      obtain ⟨⟨-, i1⟩, ⟨-, i2⟩, ⟨-, i3⟩⟩ := hen
      simp only at i1 i2 i3 htp
      have hw0 : IntKind.i64.wrap (co + con) = co + con := by rw [IntKind.wrap_i64]; omega
      have hw1 : IntKind.i64.wrap (cca + can) = cca + can := by rw [IntKind.wrap_i64]; omega
      have hw2 : IntKind.i64.wrap (ccb + cbn) = ccb + cbn := by rw [IntKind.wrap_i64]; omega
      have HPL : Hid (pre.length < N) := Lib.hid (by
        have := congrArg List.length HW.out
        rw [HWS.out, List.length_append, List.length_cons] at this
        omega)
      have HNX := Lib.hid (show (0 ≤ co + con ∧ 0 ≤ cca + can ∧ 0 ≤ ccb + cbn) ∧ Le3 (co + con, cca + can, ccb + cbn) (e0, e1, e2) from ⟨by omega, h8, h9, h10⟩)
      have HFU := Lib.hid hfu
      simp only [ckV, trV] at HCN
      clear h1 h2 h3 h4 h5 h6 h7 h8 h9 h10 hfu ht hle htp hok
      gi_wp2
      refine ⟨trivial, ?_⟩
      refine (HCN.out _).mono ?_
      rintro e w2 ⟨rfl, hb2⟩
      obtain ⟨w3, hw3⟩ : ∃ Z : World, Z = w2.alloc (.cells #[.bool cst, .int .i64 co, .int .i64 con, .int .i64 cca, .int .i64 can, .int .i64 ccb, .int .i64 cbn] 35) := ⟨_, rfl⟩
      have hb3 : Below wr.heap.size wr w3 := by rw [hw3]; exact hb2.trans ((alloc1 _ _).mono hb2.size)
      have hz3 : w3.heap.size = w2.heap.size + 1 := by rw [hw3]; simp
      have hcx : w3.heap[w2.heap.size]? = some (.cells #[.bool cst, .int .i64 co, .int .i64 con, .int .i64 cca, .int .i64 can, .int .i64 ccb, .int .i64 cbn] 35 (0, 0)) := by rw [hw3]; exact heap_alloc_new w2 _
      have hs2 := hb2.size
      have HJ3 := Lib.hid (hJ _ _ _ none hJs (grown_of hb3 none) (fun r e => by cases e))
      have HK3 := Lib.hid (hkp.t (KpX.of hb3 (by omega) (by omega)))
      have HNE : Hid (¬ Ex X w3 w2.heap.size) := Lib.hid (fun h => by have := hvx _ (h.old (by omega) hb3); omega)
      have HVX : Hid (∀ g, Ex X w3 g → g < w3.heap.size) := Lib.hid (fun g hg => by have := hvx _ (hg.old (by omega) hb3); omega)
      have HAT3 := Lib.hid ((hb3.block s (by omega)).trans HAT.out)
      have HCX := Lib.hid hcx
      have c0 := L.blk_cell hcx 0
      have c1 := L.blk_cell hcx 1
      have c2 := L.blk_cell hcx 2
      have c3 := L.blk_cell hcx 3
      have c4 := L.blk_cell hcx 4
      have c5 := L.blk_cell hcx 5
      have c6 := L.blk_cell hcx 6
      simp only [List.getElem?_toArray, List.getElem?_cons_zero, List.getElem?_cons_succ] at c0 c1 c2 c3 c4 c5 c6
      rw [hw3] at c0 c1 c2 c3 c4 c5 c6
      obtain ⟨fn, tmps, assign, body, hy, hR⟩ := hY pre ⟨cst, co, con, cca, can, ccb, cbn⟩ w3 HJ3.out HPL.out
      rw [hw3] at hy
      simp only [ckV] at hy
      clear hb2 hb3 hcx x0 x1 x2 y0 y1 y2 a0 b0 hJs hkp hvx HCN
      gi_wp2
      rw [← hw3]
      refine hR.mono ?_
      rintro e w4 ⟨rfl, hJ4, hk4⟩
      have g4 := (hk4.s _ _ _ HCX.out (.inr (.inr ⟨rfl, HNE.out⟩))).trans HCX.out
      have k4 := (hk4.s _ _ _ HAT3.out (.inl rfl)).trans HAT3.out
      have d0 := L.blk_cell g4 0
      have d1 := L.blk_cell g4 1
      have d2 := L.blk_cell g4 2
      have d3 := L.blk_cell g4 3
      have d4 := L.blk_cell g4 4
      have d5 := L.blk_cell g4 5
      have d6 := L.blk_cell g4 6
      have e3 := L.blk_cell k4 0
      have e4 := L.blk_cell k4 1
      have e5 := L.blk_cell k4 2
      have ff := fun i => L.blk_free k4 i
      simp only [List.getElem?_toArray, List.getElem?_cons_zero, List.getElem?_cons_succ] at d0 d1 d2 d3 d4 d5 d6 e3 e4 e5
      obtain ⟨w5, hw5⟩ : ∃ Z : World, Z = ((w4.setCell ⟨s, 0, none⟩ (.int .i64 (co + con))).setCell ⟨s, 1, none⟩ (.int .i64 (cca + can))).setCell ⟨s, 2, none⟩ (.int .i64 (ccb + cbn)) := ⟨_, rfl⟩
      have HAT5 := Lib.hid (show w5.heap[s]? = some (.cells #[.int .i64 (co + con), .int .i64 (cca + can), .int .i64 (ccb + cbn)] 47 (0, 0)) by rw [hw5]; exact L.blk_set (L.blk_set (L.blk_set k4 0 _) 1 _) 2 _)
      have HJ5 := Lib.hid (show J (pre ++ [⟨cst, co, con, cca, can, ccb, cbn⟩]) w5 by
        rw [hw5]
        have q1 := hC _ _ ⟨s, 0, none⟩ (.int .i64 (co + con)) hJ4 (by show W.heap.size ≤ s; omega) ⟨_, _, k4⟩
        have q2 := hC _ _ ⟨s, 1, none⟩ (.int .i64 (cca + can)) q1 (by show W.heap.size ≤ s; omega) ⟨_, _, L.blk_set k4 0 _⟩
        exact hC _ _ ⟨s, 2, none⟩ (.int .i64 (ccb + cbn)) q2 (by show W.heap.size ≤ s; omega) ⟨_, _, L.blk_set (L.blk_set k4 0 _) 1 _⟩)
      have HK5 := Lib.hid (show KpX n₀ X W w5 by
        rw [hw5]
        exact (((HK3.out.t hk4).own (p := ⟨s, 0, none⟩) hX hn₀ hss _).own (p := ⟨s, 1, none⟩) hX hn₀ hss _).own (p := ⟨s, 2, none⟩) hX hn₀ hss _)
      have hz5 : w5.heap.size = w4.heap.size := by rw [hw5]; simp
      have hz4 := hk4.z
      have HVX5 : Hid (∀ g, Ex X w5 g → g < w5.heap.size) := Lib.hid (fun g hg => by
        obtain ⟨v, u1, u2⟩ := hg
        rw [hw5, World.cell?_of_block (a := ⟨X, 0, none⟩) (L.blk_far (show X ≠ s by omega) _), World.cell?_of_block (a := ⟨X, 0, none⟩) (L.blk_far (show X ≠ s by omega) _), World.cell?_of_block (a := ⟨X, 0, none⟩) (L.blk_far (show X ≠ s by omega) _)] at u1
        rcases hk4.x g ⟨v, u1, u2⟩ with h1 | h1
        · have := HVX.out g h1; omega
        · omega)
      clear hJ4 hk4 g4 k4 c0 c1 c2 c3 c4 c5 c6 HVX HNE HCX HAT3 HJ3 HK3
      gi_wp2
      rw [← hw5]
      clear hw5 d0 d1 d2 d3 d4 d5 d6 e3 e4 e5 ff
      go_roundw
      case rel => exact ⟨(co + con, cca + can, ccb + cbn), pre ++ [⟨cst, co, con, cca, can, ccb, cbn⟩], HJ5.out, HK5.out, by omega, HVX5.out, HAT5.out, HNX.out.1, HNX.out.2, Lib.hid (by rw [HW.out, HWS.out]; simp [beh])⟩
      case measure =>
        rw [HAT5.out, HAT.out]
        exact HFU.out
end Go.Proofs.Ytcnnbchaelboeaa.Ck
