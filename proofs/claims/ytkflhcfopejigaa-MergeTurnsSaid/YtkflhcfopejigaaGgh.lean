/-
  A range over a function whose iterator keeps a variable of its own in memory between two rounds: what the caller keeps must not speak of blocks of that variable's type that came up since the loop began.
  A range over chunks: the iterator's contract.
  The contract of chunk's Of.
  Which chunks are those of three texts: the contracts of chunk's Right and of the reference's; and of the reference's Same.
  Which chunks are those of three texts, in plain words: where one stands on the way through them.
-/
import Derived.RangeFuncNested
import Derived.RangeFuncBox
import Derived.RangeFuncCalls
import Derived.RangeFuncLeaves
import Derived.OwnWalkIn
import Derived.Deep.AppendLies
import Derived.Test.YtkflhcfopejigaaGgg
import Derived.Laws.StructEq
import Derived.BigQuiet
namespace Go.Proofs.Ytkflhcfopejigaa.V
set_option linter.unusedVariables false
set_option linter.unusedSimpArgs false
open Go.RowKit

/-- Stores into blocks of type T from B on change nothing of what is kept. -/
def CalmAt {β : Type} (B : Nat) (T : TypeId) (J : β → World → Prop) : Prop := ∀ s (X : World) (p : Addr) u, J s X → B ≤ p.block → (∃ cs f, X.heap[p.block]? = some (.cells cs T f)) → J s (X.setCell p u)
/-- What an iterator with a variable of type T does for a loop that is never left: all of S come, and what is kept is kept. -/
def Tells {α : Type} (n : Nat) (P : Program) (gf : Nat) (lb : Array Value) (enc : α → Array Value) (Kp : World → World → Prop) (S : List α → Prop) (N : Nat) (T : TypeId) (w : World) : Prop :=
  ∀ (l : Nat) (J : List α → World → Prop) (W : World), Below w.heap.size w W → AbidesFrom W.heap.size J → CalmAt W.heap.size T J →
    (∀ pre x W1, J pre W1 → pre.length < N → YieldAt Fence.wide (n - 1) P l (enc x) W1 fun e W' => e = .returned (.bool true) ∧ J (pre ++ [x]) W' ∧ Kp W1 W') →
    J [] W → CallsIn Fence.wide n P gf (#[.func (.yield l) #[] #[]] ++ lb) W fun e W' => (∃ v, e = .returned v) ∧ ∃ xs, S xs ∧ J xs W'

theorem cells_not {o : Obj} {cs : Array Value} {T : TypeId} {f : Nat × Nat} (h : o = .cells cs T f) : o.isCells = true := by subst h; rfl
theorem set_keeps {X : World} {p : Addr} {u : Value} {k : Nat} {o : Obj} (hk : X.heap[k]? = some o) (ho : o.isCells = false) (hp : ∃ cs T f, X.heap[p.block]? = some (.cells cs T f)) : (X.setCell p u).heap[k]? = some o := by
  obtain ⟨cs, T, f, hp⟩ := hp
  rw [Below.heap_setCell X p u k (fun e => by rw [← e, hk] at hp; injection hp with hp; rw [hp] at ho; cases ho)]
  exact hk

theorem range_cells {α : Type} {n : Nat} {P : Program} {g : Operand} {ps : Array Tmp} {assign body : Code} {Q : Exit → Act → World → Prop} {a : Act} {w : World} (hn : 1 ≤ n) {gf : Nat} {lb : Array Value} (hg : a.eval g = .func (.func gf) #[] lb) (eg : ∀ args w, (callFunc gf args).run P w = .ok (.enter gf args) w)
    {enc : α → Array Value} {Kp : World → World → Prop} {S : List α → Prop} {N : Nat} {T : TypeId} (hseq : Tells (n - 1) P gf lb enc Kp S N T w)
    (hKt : ∀ {A B C : World}, Kp A B → Kp B C → Kp A C) (hKb : ∀ (W : World) (l : Nat) (o o' : Obj), w.heap.size ≤ l → W.heap[l]? = some o → o.isCells = false → Kp W (W.putObj l o')) (hps : ∀ x, (enc x).size = ps.size)
    (I : List α → World → Prop) (hI : OwnFrom w.heap.size I) (hS : CalmAt w.heap.size T I) (h0 : I [] w) (Ax : α → Act → World → Prop) (hAx : ∀ x a', OwnFrom w.heap.size (fun (_ : Unit) W => Ax x a' W))
    (hassign : ∀ (l : Nat) (pre : List α) (x : α) (W : World) (K : Act → World → Prop), I pre W → (∀ a' W', KeepsFrom w.heap.size W W' → Kp W W' → I pre W' → Ax x a' W' → K a' W') →
      assign.wpIn (Fence.wide.inRound l) (n - 1 - 1) P (Exit.then K (fun _ _ _ => False)) { tmps := (ps.zip (enc x)).foldl (fun t (p, v) => t.setIfInBounds p v) a.tmps, defers := [] } W)
    (hbody : ∀ (l : Nat) (pre : List α) (x : α) (a' : Act) (W : World), I pre W → Ax x a' W → pre.length < N → body.wpIn (Fence.wide.inRound l) (n - 1 - 1) P (ownPostG w.heap.size Kp I (fun _ _ _ => False) (pre ++ [x]) W) a' W)
    (hdone : ∀ (D : Nat) (xs : List α) (W : World), w.heap.size ≤ D → S xs → I xs W → W.heap[D]? = some (.deferred (some [])) → Q .normal { a with defers := { target := .collected D, args := #[] } :: a.defers } W) :
    (Code.rangeFunc g ps assign body).wpIn Fence.wide n P Q a w := by
  refine wpIn_rangeFunc fun fn hfn => ?_
  let rc : LoopState → Loop := fun st => { state := st, pending := none, fn := fn, tmps := a.tmps, params := ps, assign := assign, body := body, defers := w.heap.size }
  let W1 : World := (w.alloc (.deferred (some []))).alloc (.loop (rc .ready))
  have hz : W1.heap.size = w.heap.size + 1 + 1 := by simp [W1]
  have hb : Below w.heap.size w W1 := ((Below.refl _ w).alloc (Nat.le_refl _) _).alloc (by simp) _
  have hL : W1.heap[w.heap.size + 1]? = some (.loop (rc .ready)) := by
    have := World.alloc_heap_new (w.alloc (.deferred (some []))) (.loop (rc .ready))
    rwa [World.size_alloc] at this
  have hD : W1.heap[w.heap.size]? = some (.deferred (some [])) := (Below.heap_alloc _ _ _ (by simp)).trans (World.alloc_heap_new w _)
  have hJ : AbidesFrom W1.heap.size (fun pre W => I pre W ∧ W.heap[w.heap.size + 1]? = some (.loop (rc .ready)) ∧ W.heap[w.heap.size]? = some (.deferred (some []))) := fun s X Y row hs hgr hr =>
    ⟨hI s X Y row hs.1 hgr (fun r e => by obtain ⟨hB, o, ho, hw⟩ := hr r e; exact ⟨by omega, o, ho, Obj.not_cells_of_walk hw⟩), (grownBy_keeps hgr (fun r e => (hr r e).2) hs.2.1 rfl).trans hs.2.1, (grownBy_keeps hgr (fun r e => (hr r e).2) hs.2.2 rfl).trans hs.2.2⟩
  have hC : CalmAt W1.heap.size T (fun pre W => I pre W ∧ W.heap[w.heap.size + 1]? = some (.loop (rc .ready)) ∧ W.heap[w.heap.size]? = some (.deferred (some []))) := fun s X p u hs hp hc => by
    have hc' : ∃ cs T f, X.heap[p.block]? = some (.cells cs T f) := by obtain ⟨cs, f, h⟩ := hc; exact ⟨cs, T, f, h⟩
    exact ⟨hS s X p u hs.1 (by omega) hc, set_keeps hs.2.1 rfl hc', set_keeps hs.2.2 rfl hc'⟩
  refine ⟨w.heap.size + 1, [{ target := .collected w.heap.size, args := #[] }], W1, { target := .fn (.func gf) lb, args := #[.func (.yield (w.heap.size + 1)) #[] #[]] }, W1, gf, #[.func (.yield (w.heap.size + 1)) #[] #[]] ++ lb, W1, run_enterLoop_outer _ _ _ _ _, ?_, fun _ _ => trivial, ?_, fun _ => hn, ?_⟩
  · simp only [resolve, hg]
    simp [go_sem]
  · simp [invoke, go_sem, eg]
  refine (hseq (w.heap.size + 1) _ W1 hb hJ hC ?_ ⟨hI.alloc _ (hI.alloc _ h0), hL, hD⟩).mono ?_
  · rintro pre x W ⟨hi, hl, hd⟩ hlen
    refine ⟨fn, _, assign, body, run_yield hl (hps x), roundIn_of_wpIn hfn (hassign _ pre x W _ hi fun a' X hk1 hk2 hi2 hax => ?_)⟩
    have hl2 := hk1.same _ _ (by omega) hl rfl
    have hd2 := hk1.same _ _ (Nat.le_refl _) hd rfl
    have hlt := (Array.getElem?_eq_some_iff.1 hl2).1
    refine ⟨_, run_beginRound hl2 rfl, ?_⟩
    have hl3 : (X.putObj (w.heap.size + 1) (.loop (rc .busy))).heap[w.heap.size + 1]? = some (.loop (rc .busy)) := World.putObj_heap_same hlt
    have hd3 : (X.putObj (w.heap.size + 1) (.loop (rc .busy))).heap[w.heap.size]? = some (.deferred (some [])) := (World.putObj_heap_other (by omega)).trans hd2
    refine wpIn_mono (hbody _ pre x a' (X.putObj (w.heap.size + 1) (.loop (rc .busy))) (hI.putObj _ hi2 (by omega) hl2 rfl) ((hAx x a').putObj (s := ()) _ hax (by omega) hl2 rfl) hlen) ?_
    intro e a3 Y hp
    cases e with
    | normal =>
      obtain ⟨hk3, hk4, hi3⟩ := hp
      have hl4 := hk3.same _ _ (by omega) hl3 rfl
      have hd4 := hk3.same _ _ (Nat.le_refl _) hd3 rfl
      refine ⟨_, _, run_endRound none hl4, rfl, ⟨hI.putObj _ hi3 (by omega) hl4 rfl, World.putObj_heap_same (Array.getElem?_eq_some_iff.1 hl4).1, (World.putObj_heap_other (by omega)).trans hd4⟩, ?_⟩
      exact hKt hk2 (hKt (hKb X _ _ _ (by omega) hl2 rfl) (hKt hk4 (hKb Y _ _ _ (by omega) hl4 rfl)))
    | ret => exact hp.2.elim
    | exit id => exact hp.2.elim
    | goto t => exact hp.2.elim
    | panic ch => exact hp.elim
    | outgrown => exact hp.elim
  · rintro e Y ⟨⟨v, rfl⟩, xs, hs, hi, hl, hd⟩
    exact ⟨none, _, run_endLoop hl (by simp [rc]), hdone _ xs _ (Nat.le_refl _) hs (hI.putObj _ hi (by omega) hl rfl) ((World.putObj_heap_other (by omega)).trans hd)⟩

/-- append onto a row of one's own, inside a round: and where the new row lies. -/
theorem wpListIn_lies {F : Fence} {n : Nat} {P : Program} (w : World) {ops : Array Oper} {rest : List Oper} {o : Oper} {a : Act} {Q : Exit → Act → World → Prop} (hgd : o.guard = none) (s x : Operand) (t : TypeId)
    (ho : o.op = .call { callee := .builtin .append, args := #[s, x], argTypes := #[t, t] }) (base : Nat) (e : TypeId) (i : TypeInfo) (z : Value) (size bytes : Nat) (ht : P.underlying t = some (.slice e)) (hi : P.info? e = some i) (hz : i.zero = some z)
    (hsize : i.size = size) (hby : i.bytes = bytes) (hzs : z.cells.size = size) (hsz : 0 < size) (v : Value) (k : Nat) (xs : List Value) (hs : a.eval s = v) (hown : w.ownsRow base e size v k xs)
    (ad : Addr) (m c : Nat) (news : List Value) (hx : a.eval x = .slice (some ad) m c) (hl : news.length = m * size) (hnews : ∀ j u, news[j]? = some u → w.cell? (ad.add j) = some u) (h1 : ∀ u ∈ news, u.oneCell' = true)
    (hm : 0 < m) (h63 : k + m ≤ maxLen) (hbytes : (k + m) * bytes ≤ 140737488355328) (hbase : base ≤ w.heap.size)
    (h : ∀ g cap w', w'.ownsRow base e size (.slice (some ⟨g, 0, none⟩) (k + m) cap) (k + m) (xs ++ news) → w.grownBy w' v.ownBlock → (v.ownBlock = some g ∨ g = w.heap.size) → g < w'.heap.size → wpListIn F n P ops Q rest (a.put o.dst (.slice (some ⟨g, 0, none⟩) (k + m) cap)) w') : wpListIn F n P ops Q (o :: rest) a w := by
  refine wpListIn_plain hgd fun K hK => ?_
  obtain ⟨g, cap, w', hr, h2, h3, h4, h5⟩ := run_append_lies (P := P) w t o.type base e i z size bytes ht hi hz hsize hby hzs hsz v k xs hown ad m c news hl hnews h1 hm h63 hbytes hbase _ rfl
  refine ⟨by simp [Oper.about, ho, resolve, Target.leads, Sem.run_pure], ?_⟩
  rw [Oper.semAt_plain F _ _ (fun c' hc => by rw [ho] at hc; cases hc)]
  simp [execOp, ho, resolve, invoke, builtin, hs, hx, hr, Result.andThen]
  exact hK _ _ (h g cap w' h2 h3 h4 h5)
end Go.Proofs.Ytkflhcfopejigaa.V

namespace Go.Proofs.Ytkflhcfopejigaa.Ck
set_option linter.unusedVariables false
set_option linter.unusedSimpArgs false
open Go.RowKit Go.Shelf
open T
open Mt (Pr fnd Rt right)
open N (PrIn PrIn.below)
open V (drawn_below grown_of boxed_le Tells CalmAt)
open I (alloc1)
attribute [local go_sem] Oper.semAt_some

/-- The row that the box at X holds lies in block g. -/
def Ex (X : Nat) (W : World) (g : Nat) : Prop := ∃ v, W.cell? ⟨X, 0, none⟩ = some v ∧ v.ownBlock = some g
/-- What a round keeps: what lies below n0; places, rows of pairs, and chunks that are not in the row of the box at X. -/
structure KpX (n₀ X : Nat) (A B : World) : Prop where
  b : Below n₀ A B
  z : A.heap.size ≤ B.heap.size
  s : ∀ k cs t, A.heap[k]? = some (.cells cs t (0, 0)) → (t = 72 ∨ t = 23 ∨ (t = 41 ∧ ¬ Ex X A k)) → B.heap[k]? = A.heap[k]?
  x : ∀ g, Ex X B g → Ex X A g ∨ (A.heap.size ≤ g ∧ g < B.heap.size)
theorem KpX.t {n₀ X : Nat} {A B C : World} (h : KpX n₀ X A B) (k : KpX n₀ X B C) : KpX n₀ X A C := by
  refine ⟨h.b.trans k.b, Nat.le_trans h.z k.z, fun i cs t hi ht => ?_, fun g hg => ?_⟩
  · have h1 := h.s i cs t hi ht
    refine (k.s i cs t (h1.trans hi) ?_).trans h1
    rcases ht with ht | ht | ⟨ht, hx⟩
    · exact .inl ht
    · exact .inr (.inl ht)
    · refine .inr (.inr ⟨ht, fun hx' => ?_⟩)
      rcases h.x i hx' with h2 | h2
      · exact hx h2
      · have := L.blk_lt hi; omega
  · rcases k.x g hg with h1 | h1
    · rcases h.x g h1 with h2 | h2
      · exact .inl h2
      · exact .inr ⟨h2.1, Nat.lt_of_lt_of_le h2.2 k.z⟩
    · exact .inr ⟨Nat.le_trans h.z h1.1, h1.2⟩
theorem Ex.old {X g : Nat} {A B : World} (hx : X < A.heap.size) (hb : Below A.heap.size A B) (h : Ex X B g) : Ex X A g := by
  obtain ⟨v, h1, h2⟩ := h
  exact ⟨v, (hb.cell (p := ⟨X, 0, none⟩) hx).symm.trans h1, h2⟩
theorem KpX.of {n₀ X : Nat} {A B : World} (hb : Below A.heap.size A B) (hn : n₀ ≤ A.heap.size) (hx : X < A.heap.size) : KpX n₀ X A B :=
  ⟨hb.mono hn, hb.size, fun k cs t hk _ => hb.block k (L.blk_lt hk), fun g hg => .inl (hg.old hx hb)⟩
theorem KpX.put {n₀ X : Nat} {w : World} (hn : n₀ ≤ w.heap.size) (hx : X < w.heap.size) (W : World) (l : Nat) (o o' : Obj) (hl : w.heap.size ≤ l) (h : W.heap[l]? = some o) (h1 : o.isCells = false) : KpX n₀ X W (W.putObj l o') := by
  have hg := grownBy_putObj' W l o'
  have hlt := (Array.getElem?_eq_some_iff.1 h).1
  refine ⟨(Below.refl n₀ W).grown hg (by omega) (fun k e => by cases e; omega), hg.size, fun k cs t hk _ => hg.block k (L.blk_lt hk) (fun e => ?_), fun g hx' => .inl ?_⟩
  · injection e with e
    rw [e, h] at hk
    injection hk with hk
    rw [hk] at h1; cases h1
  · obtain ⟨v, e1, e2⟩ := hx'
    refine ⟨v, ?_, e2⟩
    rw [World.cell?_of_block (a := ⟨X, 0, none⟩) (hg.block X (by omega) (fun e => by injection e with e; omega))] at e1
    exact e1


theorem KpX.own {n₀ X : Nat} {W A : World} {p : Addr} (h : KpX n₀ X W A) (hX : X < W.heap.size) (hn : n₀ ≤ W.heap.size) (hp : W.heap.size ≤ p.block) (u : Value) : KpX n₀ X W (A.setCell p u) := by
  refine ⟨h.b.setCell (by omega) u, by simpa using h.z, fun k cs t hk ht => (Below.heap_setCell A p u k (fun e => by have := L.blk_lt hk; omega)).trans (h.s k cs t hk ht), fun g hg => ?_⟩
  obtain ⟨v, e1, e2⟩ := hg
  rw [World.cell?_of_block (a := ⟨X, 0, none⟩) (Below.heap_setCell A p u X (fun e => by omega))] at e1
  rcases h.x g ⟨v, e1, e2⟩ with h1 | h1
  · exact .inl h1
  · exact .inr ⟨h1.1, by simpa using h1.2⟩
theorem cnext_call (n : Nat) (A B : Option Addr) (ca cb : Nat) (p q : List Pr) (t e : Tr) (w : World) (h : Fine p q) (hA : PrIn w A p) (hB : PrIn w B q) (ht : Okt t) (he : Okt e) :
    CallsIn Fence.wide n Try.prog 52 #[.slice A p.length ca, .slice B q.length cb, trV t, trV e] w fun r w' => r = .returned (ckV (step p q e t)) ∧ Below w.heap.size w w' := callsIn_wide.2 (cnext_any A B ca cb p q t e w h hA hB ht he)
theorem okt_le {t e : Tr} (h0 : 0 ≤ t.1 ∧ 0 ≤ t.2.1 ∧ 0 ≤ t.2.2) (h : Le3 t e) (he : Okt e) : Okt t := ⟨⟨h0.1, Int.le_trans h.1 he.1.2⟩, ⟨h0.2.1, Int.le_trans h.2.1 he.2.1.2⟩, ⟨h0.2.2, Int.le_trans h.2.2 he.2.2.2⟩⟩
def left3 (e : Tr) : Option Obj → Nat
  | some (.cells cs _ _) => match cs.toList with
    | [.int _ a, .int _ b, .int _ c] => fu e (a, b, c)
    | _ => 0
  | _ => 0
theorem left3_at (e t : Tr) : left3 e (some (.cells #[.int .i64 t.1, .int .i64 t.2.1, .int .i64 t.2.2] 72 (0, 0))) = fu e t := rfl
set_option maxRecDepth 100000 in
set_option maxHeartbeats 4000000 in
/-- The iterator's closure, for every loop body that keeps what KpX says. -/
theorem walk1_in (n : Nat) (hn : 6 ≤ n) (lp Be Ba Bb X n₀ ca cb N : Nat) (A B : Option Addr) (p q : List Pr) (en : Tr) (hf : Fine p q) (hp : Rt p en.1 en.2.1) (hq : Rt q en.1 en.2.2) (hen : Okt en) (hen0 : Le3 (0, 0, 0) en) (hN : (walk p q en (0, 0, 0)).length ≤ N)
    (J : List Ck → World → Prop) (W : World) (hJ : AbidesFrom W.heap.size J) (hC : CalmAt W.heap.size 72 J)
    (hY : ∀ pre x W, J pre W → pre.length < N → YieldAt Fence.wide (n - 1) Try.prog lp #[ckV x] W fun e W' => e = .returned (.bool true) ∧ J (pre ++ [x]) W' ∧ KpX n₀ X W W')
    (hn₀ : n₀ ≤ W.heap.size) (hX : X < W.heap.size) (hXn : ∀ g, ¬ Ex X W g) (hBe : W.heap[Be]? = some (.cells #[.int .i64 en.1, .int .i64 en.2.1, .int .i64 en.2.2] 72 (0, 0))) (hBa : W.heap[Ba]? = some (.cells #[.slice A p.length ca] 23 (0, 0))) (hBb : W.heap[Bb]? = some (.cells #[.slice B q.length cb] 23 (0, 0)))
    (hA : PrLow W n₀ A p) (hB : PrLow W n₀ B q) (h0 : J [] W) :
    CallsIn Fence.wide n Try.prog 51 #[.func (.yield lp) #[] #[], .pointer (some ⟨Be, 0, none⟩), .pointer (some ⟨Ba, 0, none⟩), .pointer (some ⟨Bb, 0, none⟩)] W fun e W' => (∃ v, e = .returned v) ∧ ∃ ys : List Ck, ys = walk p q en (0, 0, 0) ∧ J ys W' := by
  have h1n : 1 ≤ n := by omega
  obtain ⟨s, hs⟩ : ∃ s, s = W.heap.size := ⟨_, rfl⟩
  obtain ⟨W1, hW1⟩ : ∃ Z : World, Z = W.alloc (.cells #[.int .i64 0, .int .i64 0, .int .i64 0] 72) := ⟨_, rfl⟩
  have hb1 : Below W.heap.size W W1 := by rw [hW1]; exact alloc1 _ _
  have hx1 : W1.heap[s]? = some (.cells #[.int .i64 0, .int .i64 0, .int .i64 0] 72 (0, 0)) := by rw [hW1, hs]; exact heap_alloc_new W _
  have hJ1 : J [] W1 := hJ _ _ _ none h0 (grown_of hb1 none) (fun r e => by cases e)
  have hK1 : KpX n₀ X W W1 := KpX.of hb1 hn₀ hX
  have hsz1 : W1.heap.size = s + 1 := by rw [hW1, hs]; simp
  obtain ⟨e0, e1, e2⟩ := en
  refine callsIn_of_wp Try.func51 rfl trivial ?_ rfl
  simp only [Try.ntmps51, List.size_toArray, List.length_cons, List.length_nil, Nat.reduceAdd, Nat.reduceSub, Array.replicate_succ, Array.replicate_zero, List.push_toArray, List.append_toArray, List.nil_append, List.cons_append]
  gi_wp2
  rw [← hW1, ← hs]
  have hss : W.heap.size ≤ s := by omega
  have hss' : s ≤ W.heap.size := by omega
  clear hW1 hs
  gi_loopw [6] (fun x6 wr => ∃ (t : Tr) (pre : List Ck), J pre wr ∧ KpX n₀ X W wr ∧ s + 1 ≤ wr.heap.size ∧ (∀ g, Ex X wr g → g < wr.heap.size) ∧ wr.heap[s]? = some (.cells #[.int .i64 t.1, .int .i64 t.2.1, .int .i64 t.2.2] 72 (0, 0)) ∧ (0 ≤ t.1 ∧ 0 ≤ t.2.1 ∧ 0 ≤ t.2.2) ∧ Le3 t (e0, e1, e2) ∧ Hid (walk p q (e0, e1, e2) (0, 0, 0) = pre ++ walk p q (e0, e1, e2) t))
    (fun x6 wr => left3 (e0, e1, e2) (wr.heap[s]?))
  case atStart => exact ⟨(0, 0, 0), [], hJ1, hK1, by omega, fun g hg => absurd (hg.old hX hb1) (hXn g), hx1, ⟨Int.le_refl _, Int.le_refl _, Int.le_refl _⟩, hen0, Lib.hid rfl⟩
  case round =>
    obtain ⟨t, pre, hJs, hkp, hsz, hvx, hat, htp, hle, HW⟩ := hrel
    have HAT := Lib.hid hat
    obtain ⟨t0, t1, t2⟩ := t
    have x0 := L.blk_cell hat 0
    have x1 := L.blk_cell hat 1
    have x2 := L.blk_cell hat 2
    have gE := (hkp.s Be _ _ hBe (.inl rfl)).trans hBe
    have y0 := L.blk_cell gE 0
    have y1 := L.blk_cell gE 1
    have y2 := L.blk_cell gE 2
    have a0 := boxed_cell ((hkp.s Ba _ _ hBa (.inr (.inl rfl))).trans hBa)
    have b0 := boxed_cell ((hkp.s Bb _ _ hBb (.inr (.inl rfl))).trans hBb)
    simp only [List.getElem?_toArray, List.getElem?_cons_zero, List.getElem?_cons_succ] at x0 x1 x2 y0 y1 y2
    have hq1 := fun w => tr_eqIn w t0 t1 t2 e0 e1 e2
    clear gE hat
    by_cases ht : ((t0, t1, t2) : Tr) = (e0, e1, e2)
    · have HE := Lib.hid (show walk p q (e0, e1, e2) (0, 0, 0) = pre by rw [HW.out, ht, walk_end, List.append_nil])
      rw [decide_eq_true ht] at hq1
      clear ht
      gi_wp2
      go_end0
      exact ⟨⟨_, rfl⟩, by rw [HE.out]; exact hJs⟩
    · rw [decide_eq_false ht] at hq1
      have hst := step_ok hp hq hle ht
      have HWS := Lib.hid (walk_step hp hq hle ht)
      have hok : Okt (t0, t1, t2) := okt_le htp hle hen
      have HCN := Lib.hid (fun m => cnext_call m A B ca cb p q (t0, t1, t2) (e0, e1, e2) wr hf ((hA.kept hkp.b).prIn (by omega)) ((hB.kept hkp.b).prIn (by omega)) hok hen)
      obtain ⟨c, hc⟩ : ∃ c, c = step p q (e0, e1, e2) (t0, t1, t2) := ⟨_, rfl⟩
      rw [← hc] at HCN HWS hst
      clear hc
      obtain ⟨cst, co, con, cca, can, ccb, cbn⟩ := c
      have hfu := hst.fu
      obtain ⟨⟨h1, h2, h3⟩, h4, h5, h6, h7, h8, h9, h10⟩ := hst
      simp only [beh] at h1 h2 h3 h4 h5 h6 h8 h9 h10 hfu
      obtain ⟨⟨-, i1⟩, ⟨-, i2⟩, ⟨-, i3⟩⟩ := hen
      simp only at i1 i2 i3 htp
      have hw0 : IntKind.i64.wrap (co + con) = co + con := by rw [IntKind.wrap_i64]; omega
      have hw1 : IntKind.i64.wrap (cca + can) = cca + can := by rw [IntKind.wrap_i64]; omega
      have hw2 : IntKind.i64.wrap (ccb + cbn) = ccb + cbn := by rw [IntKind.wrap_i64]; omega
      have HPL : Hid (pre.length < N) := Lib.hid (by
        have := congrArg List.length HW.out
        rw [HWS.out, List.length_append, List.length_cons] at this
        omega)
      have HNX := Lib.hid (show (0 ≤ co + con ∧ 0 ≤ cca + can ∧ 0 ≤ ccb + cbn) ∧ Le3 (co + con, cca + can, ccb + cbn) (e0, e1, e2) from ⟨by omega, h8, h9, h10⟩)
      have HFU := Lib.hid hfu
      simp only [ckV, trV] at HCN
      clear h1 h2 h3 h4 h5 h6 h7 h8 h9 h10 hfu ht hle htp hok
      gi_wp2
      refine ⟨trivial, ?_⟩
      refine (HCN.out _).mono ?_
      rintro e w2 ⟨rfl, hb2⟩
      obtain ⟨w3, hw3⟩ : ∃ Z : World, Z = w2.alloc (.cells #[.bool cst, .int .i64 co, .int .i64 con, .int .i64 cca, .int .i64 can, .int .i64 ccb, .int .i64 cbn] 41) := ⟨_, rfl⟩
      have hb3 : Below wr.heap.size wr w3 := by rw [hw3]; exact hb2.trans ((alloc1 _ _).mono hb2.size)
      have hz3 : w3.heap.size = w2.heap.size + 1 := by rw [hw3]; simp
      have hcx : w3.heap[w2.heap.size]? = some (.cells #[.bool cst, .int .i64 co, .int .i64 con, .int .i64 cca, .int .i64 can, .int .i64 ccb, .int .i64 cbn] 41 (0, 0)) := by rw [hw3]; exact heap_alloc_new w2 _
      have hs2 := hb2.size
      have HJ3 := Lib.hid (hJ _ _ _ none hJs (grown_of hb3 none) (fun r e => by cases e))
      have HK3 := Lib.hid (hkp.t (KpX.of hb3 (by omega) (by omega)))
      have HNE : Hid (¬ Ex X w3 w2.heap.size) := Lib.hid (fun h => by have := hvx _ (h.old (by omega) hb3); omega)
      have HVX : Hid (∀ g, Ex X w3 g → g < w3.heap.size) := Lib.hid (fun g hg => by have := hvx _ (hg.old (by omega) hb3); omega)
      have HAT3 := Lib.hid ((hb3.block s (by omega)).trans HAT.out)
      have HCX := Lib.hid hcx
      have c0 := L.blk_cell hcx 0
      have c1 := L.blk_cell hcx 1
      have c2 := L.blk_cell hcx 2
      have c3 := L.blk_cell hcx 3
      have c4 := L.blk_cell hcx 4
      have c5 := L.blk_cell hcx 5
      have c6 := L.blk_cell hcx 6
      simp only [List.getElem?_toArray, List.getElem?_cons_zero, List.getElem?_cons_succ] at c0 c1 c2 c3 c4 c5 c6
      rw [hw3] at c0 c1 c2 c3 c4 c5 c6
      obtain ⟨fn, tmps, assign, body, hy, hR⟩ := hY pre ⟨cst, co, con, cca, can, ccb, cbn⟩ w3 HJ3.out HPL.out
      rw [hw3] at hy
      simp only [ckV] at hy
      clear hb2 hb3 hcx x0 x1 x2 y0 y1 y2 a0 b0 hJs hkp hvx HCN
      gi_wp2
      rw [← hw3]
      refine hR.mono ?_
      rintro e w4 ⟨rfl, hJ4, hk4⟩
      have g4 := (hk4.s _ _ _ HCX.out (.inr (.inr ⟨rfl, HNE.out⟩))).trans HCX.out
      have k4 := (hk4.s _ _ _ HAT3.out (.inl rfl)).trans HAT3.out
      have d0 := L.blk_cell g4 0
      have d1 := L.blk_cell g4 1
      have d2 := L.blk_cell g4 2
      have d3 := L.blk_cell g4 3
      have d4 := L.blk_cell g4 4
      have d5 := L.blk_cell g4 5
      have d6 := L.blk_cell g4 6
      have e3 := L.blk_cell k4 0
      have e4 := L.blk_cell k4 1
      have e5 := L.blk_cell k4 2
      have ff := fun i => L.blk_free k4 i
      simp only [List.getElem?_toArray, List.getElem?_cons_zero, List.getElem?_cons_succ] at d0 d1 d2 d3 d4 d5 d6 e3 e4 e5
      obtain ⟨w5, hw5⟩ : ∃ Z : World, Z = ((w4.setCell ⟨s, 0, none⟩ (.int .i64 (co + con))).setCell ⟨s, 1, none⟩ (.int .i64 (cca + can))).setCell ⟨s, 2, none⟩ (.int .i64 (ccb + cbn)) := ⟨_, rfl⟩
      have HAT5 := Lib.hid (show w5.heap[s]? = some (.cells #[.int .i64 (co + con), .int .i64 (cca + can), .int .i64 (ccb + cbn)] 72 (0, 0)) by rw [hw5]; exact L.blk_set (L.blk_set (L.blk_set k4 0 _) 1 _) 2 _)
      have HJ5 := Lib.hid (show J (pre ++ [⟨cst, co, con, cca, can, ccb, cbn⟩]) w5 by
        rw [hw5]
        have q1 := hC _ _ ⟨s, 0, none⟩ (.int .i64 (co + con)) hJ4 (by show W.heap.size ≤ s; omega) ⟨_, _, k4⟩
        have q2 := hC _ _ ⟨s, 1, none⟩ (.int .i64 (cca + can)) q1 (by show W.heap.size ≤ s; omega) ⟨_, _, L.blk_set k4 0 _⟩
        exact hC _ _ ⟨s, 2, none⟩ (.int .i64 (ccb + cbn)) q2 (by show W.heap.size ≤ s; omega) ⟨_, _, L.blk_set (L.blk_set k4 0 _) 1 _⟩)
      have HK5 := Lib.hid (show KpX n₀ X W w5 by
        rw [hw5]
        exact (((HK3.out.t hk4).own (p := ⟨s, 0, none⟩) hX hn₀ hss _).own (p := ⟨s, 1, none⟩) hX hn₀ hss _).own (p := ⟨s, 2, none⟩) hX hn₀ hss _)
      have hz5 : w5.heap.size = w4.heap.size := by rw [hw5]; simp
      have hz4 := hk4.z
      have HVX5 : Hid (∀ g, Ex X w5 g → g < w5.heap.size) := Lib.hid (fun g hg => by
        obtain ⟨v, u1, u2⟩ := hg
        rw [hw5, World.cell?_of_block (a := ⟨X, 0, none⟩) (L.blk_far (show X ≠ s by omega) _), World.cell?_of_block (a := ⟨X, 0, none⟩) (L.blk_far (show X ≠ s by omega) _), World.cell?_of_block (a := ⟨X, 0, none⟩) (L.blk_far (show X ≠ s by omega) _)] at u1
        rcases hk4.x g ⟨v, u1, u2⟩ with h1 | h1
        · have := HVX.out g h1; omega
        · omega)
      clear hJ4 hk4 g4 k4 c0 c1 c2 c3 c4 c5 c6 HVX HNE HCX HAT3 HJ3 HK3
      gi_wp2
      rw [← hw5]
      clear hw5 d0 d1 d2 d3 d4 d5 d6 e3 e4 e5 ff
      go_roundw
      case rel => exact ⟨(co + con, cca + can, ccb + cbn), pre ++ [⟨cst, co, con, cca, can, ccb, cbn⟩], HJ5.out, HK5.out, by omega, HVX5.out, HAT5.out, HNX.out.1, HNX.out.2, Lib.hid (by rw [HW.out, HWS.out]; simp [beh])⟩
      case measure =>
        rw [HAT5.out, HAT.out]
        exact HFU.out
end Go.Proofs.Ytkflhcfopejigaa.Ck

namespace Go.Proofs.Ytkflhcfopejigaa.Ck
set_option linter.unusedVariables false
set_option linter.unusedSimpArgs false
open Go.RowKit Go.Shelf
open T
open Mt (Pr fnd Rt right right_iff)
open N (PrIn PrIn.below)
open V (drawn_below grown_of boxed_le Tells CalmAt range_cells wpListIn_lies)
open I (alloc1)
attribute [local go_sem] Oper.semAt_some

def ckCells (l : List Ck) : List Value := l.flatMap fun c => [.bool c.st, .int .i64 c.o, .int .i64 c.on, .int .i64 c.a, .int .i64 c.an, .int .i64 c.b, .int .i64 c.bn]
theorem ckCells_snoc (l : List Ck) (c : Ck) : ckCells (l ++ [c]) = ckCells l ++ [.bool c.st, .int .i64 c.o, .int .i64 c.on, .int .i64 c.a, .int .i64 c.an, .int .i64 c.b, .int .i64 c.bn] := by simp [ckCells]
theorem infoCk : (Try.prog.info? 41).map (fun i => (i.zero, i.size, i.bytes)) = some (some (.agg #[.bool false, .int .i64 0, .int .i64 0, .int .i64 0, .int .i64 0, .int .i64 0, .int .i64 0]), 7, 56) := by kernel_rfl
theorem walk_in (n : Nat) (A B : Option Addr) (la ca lb cb : Nat) (x y z : Int) (w : World) :
    CallsIn Fence.wide n Try.prog 40 #[.slice A la ca, .slice B lb cb, .agg #[.int .i64 x, .int .i64 y, .int .i64 z]] w fun e w' => e = .returned (.func (.func 51) #[] #[.pointer (some ⟨w.heap.size + 1 + 1, 0, none⟩), .pointer (some ⟨w.heap.size, 0, none⟩), .pointer (some ⟨w.heap.size + 1, 0, none⟩)]) ∧
      w' = ((w.alloc (.cells #[.slice A la ca] 23)).alloc (.cells #[.slice B lb cb] 23)).alloc (.cells #[.int .i64 x, .int .i64 y, .int .i64 z] 72) := by
  refine callsIn_of_wp Try.func40 rfl trivial ?_ rfl
  simp only [Try.ntmps40, List.size_toArray, List.length_cons, List.length_nil, Nat.reduceAdd, Nat.reduceSub, Array.replicate_succ, Array.replicate_zero, List.push_toArray, List.append_toArray, List.nil_append, List.cons_append]
  gi_wp2
  go_ret
  exact ⟨rfl, rfl⟩
theorem walk_tells (n : Nat) (hn : 6 ≤ n) (Be Ba Bb X n₀ ca cb N : Nat) (A B : Option Addr) (p q : List Pr) (en : Tr) (hf : Fine p q) (hp : Rt p en.1 en.2.1) (hq : Rt q en.1 en.2.2) (hen : Okt en) (hen0 : Le3 (0, 0, 0) en) (hN : (walk p q en (0, 0, 0)).length ≤ N) (w : World)
    (hn₀ : n₀ ≤ w.heap.size) (hX : w.heap[X]? = some (.cells #[.slice none 0 0] 52 (0, 0))) (hBe : w.heap[Be]? = some (.cells #[.int .i64 en.1, .int .i64 en.2.1, .int .i64 en.2.2] 72 (0, 0))) (hBa : w.heap[Ba]? = some (.cells #[.slice A p.length ca] 23 (0, 0))) (hBb : w.heap[Bb]? = some (.cells #[.slice B q.length cb] 23 (0, 0)))
    (hA : PrLow w n₀ A p) (hB : PrLow w n₀ B q) : Tells n Try.prog 51 #[.pointer (some ⟨Be, 0, none⟩), .pointer (some ⟨Ba, 0, none⟩), .pointer (some ⟨Bb, 0, none⟩)] (fun c : Ck => #[ckV c]) (KpX n₀ X) (fun ys => ys = walk p q en (0, 0, 0)) N 72 w := fun lp J W hW hJ hC hY h0 => by
  have hsz := hW.size
  exact walk1_in n hn lp Be Ba Bb X n₀ ca cb N A B p q en hf hp hq hen hen0 hN J W hJ hC hY (by omega) (by have := L.blk_lt hX; omega) (fun g hg => by
    obtain ⟨v, h1, h2⟩ := hg.old (L.blk_lt hX) hW
    rw [boxed_cell hX] at h1
    injection h1 with h1
    subst h1
    cases h2) ((hW.block Be (L.blk_lt hBe)).trans hBe) ((hW.block Ba (L.blk_lt hBa)).trans hBa) ((hW.block Bb (L.blk_lt hBb)).trans hBb) (hA.kept (hW.mono hn₀)) (hB.kept (hW.mono hn₀)) h0
def CkEnd (w : World) (l : List Ck) (z : Int) (e : Ending) (w' : World) : Prop := ∃ C cc, e = .returned (.tuple #[.slice C l.length cc, .int .i64 z]) ∧ w'.ownsRow w.heap.size 41 7 (.slice C l.length cc) l.length (ckCells l) ∧ Below w.heap.size w w'
def nth3 (o a b : Int) (k : Nat) : Int := if k = 0 then o else if k = 1 then a else b
theorem fine_of {p q : List Pr} {o a b : Int} (hp : Rt p o a) (hq : Rt q o b) (ho : bound o) (ha : bound a) (hb : bound b) (h1 : p.length ≤ 1000) (h2 : q.length ≤ 1000) : Fine p q :=
  ⟨hp.up.imp fun h => h.1, hq.up.imp fun h => h.1, h1, h2, fun z hz => by have := hp.all z hz; unfold bound at *; omega, fun z hz => by have := hq.all z hz; unfold bound at *; omega⟩
theorem bad3 {o a b : Int} {k : Nat} (hk : k < 3) (h : ¬ bound (nth3 o a b k)) (p q : List Pr) : chunks p q o a b = [] ∧ err p q o a b = 2 := by
  have hc : ¬ can p q o a b := fun hc => by
    obtain ⟨⟨h1, h2, h3⟩, -⟩ := hc
    rcases (by omega : k = 0 ∨ k = 1 ∨ k = 2) with rfl | rfl | rfl
    · exact h h1
    · exact h h2
    · exact h h3
  exact ⟨if_neg hc, if_neg hc⟩
theorem bad_right {p q : List Pr} {o a b : Int} (h : ¬ right p o a = true ∨ ¬ right q o b = true) : chunks p q o a b = [] ∧ err p q o a b = 2 := by
  have hc : ¬ can p q o a b := fun hc => by
    rcases h with h | h
    · exact h hc.2.1
    · exact h hc.2.2
  exact ⟨if_neg hc, if_neg hc⟩
theorem of_calm {w : World} {X B : Nat} (hB : w.heap.size ≤ B) : CalmAt B 72 (fun (pre : List Ck) W => (∃ v, Boxed W X 52 v ∧ W.ownsRow (X + 4) 41 7 v pre.length (ckCells pre) ∧ True) ∧ (Below w.heap.size w W ∧ X + 4 ≤ W.heap.size)) := fun s Y p u hs hp hc => by
  obtain ⟨⟨v, h1, h2, -⟩, h3, h4⟩ := hs
  obtain ⟨cs, f, hc⟩ := hc
  have hg := V.grown_set Y p u
  refine ⟨⟨v, V.blk_grown h1 hg (fun e => ?_), h2.kept hg (.inr (V.own_type h2 hc (by decide))), trivial⟩, h3.setCell (by omega) u, by simpa using h4⟩
  injection e with e
  rw [e] at hc
  rw [show Y.heap[X]? = _ from h1] at hc
  injection hc with hc
  injection hc with _ hc
  exact absurd hc (by decide)
set_option maxRecDepth 100000 in
set_option maxHeartbeats 4000000 in
theorem of_in (n : Nat) (hn : 8 ≤ n) (A B : Option Addr) (ca cb : Nat) (p q : List Pr) (o a b : Int) (w : World) (hpl : p.length ≤ 1000) (hql : q.length ≤ 1000) (hqA : PrIn w A p) (hqB : PrIn w B q) :
    CallsIn Fence.wide n Try.prog 24 #[.slice A p.length ca, .slice B q.length cb, .int .i64 o, .int .i64 a, .int .i64 b] w (CkEnd w (chunks p q o a b) (err p q o a b)) := by
  have h1n : 1 ≤ n := by omega
  obtain ⟨i0, hi0, hz0, hz1, hz2⟩ := info_parts infoCk
  obtain ⟨W0, hW0⟩ : ∃ W : World, W = w.alloc (.cells #[.int .i64 o, .int .i64 a, .int .i64 b] 72) := ⟨_, rfl⟩
  have HB0 := Lib.hid (show Below w.heap.size w W0 by rw [hW0]; exact alloc1 _ _)
  have HX0 := Lib.hid (show W0.heap[w.heap.size]? = some (.cells #[.int .i64 o, .int .i64 a, .int .i64 b] 72 (0, 0)) by rw [hW0]; exact heap_alloc_new w _)
  have hs0 : W0.heap.size = w.heap.size + 1 := by rw [hW0]; simp
  refine callsIn_of_wp_marks Try.func24 rfl trivial ?_ rfl
  simp only [Try.ntmps24, List.size_toArray, List.length_cons, List.length_nil, Nat.reduceAdd, Nat.reduceSub, Array.replicate_succ, Array.replicate_zero, List.push_toArray, List.append_toArray, List.nil_append, List.cons_append]
  gi_wp2
  rw [← hW0]
  clear hW0
  gi_loopw [22] (fun x22 wr => ∃ k : Nat, k ≤ 3 ∧ x22 = .int .i64 (k : Int) ∧ wr = W0 ∧ Hid (∀ j, j < k → bound (nth3 o a b j))) (fun x22 _ => 3 - (intOf x22).toNat)
  case atStart => exact ⟨0, by omega, by first | rfl | trivial, by first | rfl | trivial, Lib.hid fun j hj => by omega⟩
  case round =>
    obtain ⟨k, hk, rfl, rfl, HK⟩ := hrel
    by_cases hlt : k < 3
    · have hki : (k : Int) < 3 := by omega
      have hix : ∀ w : World, (Instr.index 72 (.agg #[.int .i64 o, .int .i64 a, .int .i64 b]) (.int .i64 (k : Int))).run Try.prog w = .ok (.int .i64 (nth3 o a b k)) w := fun w => by
        rcases (by omega : k = 0 ∨ k = 1 ∨ k = 2) with rfl | rfl | rfl <;> kernel_rfl
      obtain ⟨x, hx⟩ : ∃ x, x = nth3 o a b k := ⟨_, rfl⟩
      rw [← hx] at hix
      have HXX := Lib.hid hx
      have HKB := Lib.hid (And.intro hk hlt)
      clear hx
      by_cases h1 : x < 0
      · have HV := Lib.hid (bad3 (o := o) (a := a) (b := b) hlt (fun h => by rw [← HXX.out] at h; exact absurd h.1 (by omega)) p q)
        gi_wp2
        refine ⟨.tuple #[.slice none 0 0, .int .i64 2], by simp [results, Try.results24, go_sem], ?_⟩
        rw [HV.out.1, HV.out.2]
        exact ⟨none, 0, rfl, World.ownsRow_nil _ _ _ _, HB0.out⟩
      · by_cases h2 : 400 < x
        · have HV := Lib.hid (bad3 (o := o) (a := a) (b := b) hlt (fun h => by rw [← HXX.out] at h; exact absurd h.2 (by omega)) p q)
          gi_wp2
          refine ⟨.tuple #[.slice none 0 0, .int .i64 2], by simp [results, Try.results24, go_sem], ?_⟩
          rw [HV.out.1, HV.out.2]
          exact ⟨none, 0, rfl, World.ownsRow_nil _ _ _ _, HB0.out⟩
        · have HKN : Hid (∀ j, j < k + 1 → bound (nth3 o a b j)) := Lib.hid (fun j hj => by
            rcases Nat.lt_or_eq_of_le (show j ≤ k by omega) with h | h
            · exact HK.out j h
            · subst h; rw [← HXX.out]; exact ⟨by omega, by omega⟩)
          gi_wp2
          go_roundw
          case rel => exact ⟨k + 1, by omega, by go_num, by first | rfl | trivial, HKN⟩
          case measure => simp [intOf]; omega
    · obtain rfl : k = 3 := by omega
      have HBD := Lib.hid (show bound o ∧ bound a ∧ bound b from ⟨HK.out 0 (by omega), HK.out 1 (by omega), HK.out 2 (by omega)⟩)
      have HRA := Lib.hid (fun (w1 : World) (h : Below w.heap.size w w1) => callsIn_wide (n := n - 1).2 (Mt.right_any A ca p o a w1 (hqA.below h) (by unfold maxLen; omega)))
      have HRB := Lib.hid (fun (w1 : World) (h : Below w.heap.size w w1) => callsIn_wide (n := n - 1).2 (Mt.right_any B cb q o b w1 (hqB.below h) (by unfold maxLen; omega)))
      clear hk hlt HK
      by_cases h1 : right p o a = true
      · rw [h1] at HRA
        by_cases h2 : right q o b = true
        · rw [h2] at HRB
          have HCN := Lib.hid (show can p q o a b from ⟨HBD.out, h1, h2⟩)
          have HRT := Lib.hid (And.intro (right_iff.1 h1) (right_iff.1 h2))
          gi_wp2
          refine ⟨trivial, ?_⟩
          refine (HRA.out _ HB0.out).mono ?_
          rintro e w2 ⟨rfl, hb2⟩
          have HB2 := Lib.hid (HB0.out.trans (hb2.mono HB0.out.size))
          have HX2 := Lib.hid ((hb2.block _ (L.blk_lt HX0.out)).trans HX0.out)
          clear hb2
          gi_wp2
          refine ⟨trivial, ?_⟩
          refine (HRB.out _ HB2.out).mono ?_
          rintro e w3 ⟨rfl, hb3⟩
          have HB3 := Lib.hid (HB2.out.trans (hb3.mono HB2.out.size))
          have HX3 := Lib.hid ((hb3.block _ (L.blk_lt HX2.out)).trans HX2.out)
          clear hb3 HB2 HX2 HB0 HX0 hs0
          have hx3 := HX3.out
          have q0 := L.blk_cell (Below.heap_alloc w3 (.cells #[.slice none 0 0] 52) w.heap.size (L.blk_lt hx3) |>.trans hx3) 0
          have q1 := L.blk_cell (Below.heap_alloc w3 (.cells #[.slice none 0 0] 52) w.heap.size (L.blk_lt hx3) |>.trans hx3) 1
          have q2 := L.blk_cell (Below.heap_alloc w3 (.cells #[.slice none 0 0] 52) w.heap.size (L.blk_lt hx3) |>.trans hx3) 2
          simp only [List.getElem?_toArray, List.getElem?_cons_zero, List.getElem?_cons_succ] at q0 q1 q2
          have hlt3 := L.blk_lt hx3
          clear hx3
          obtain ⟨W4, hW4⟩ : ∃ W : World, W = (((w3.alloc (.cells #[.slice none 0 0] 52)).alloc (.cells #[.slice A p.length ca] 23)).alloc (.cells #[.slice B q.length cb] 23)).alloc (.cells #[.int .i64 o, .int .i64 a, .int .i64 b] 72) := ⟨_, rfl⟩
          have HM : Hid (W4.heap.size = w3.heap.size + 1 + 1 + 1 + 1 ∧ Below w3.heap.size w3 W4 ∧ W4.heap[w3.heap.size]? = some (.cells #[.slice none 0 0] 52 (0, 0)) ∧ W4.heap[w3.heap.size + 1]? = some (.cells #[.slice A p.length ca] 23 (0, 0)) ∧ W4.heap[w3.heap.size + 1 + 1]? = some (.cells #[.slice B q.length cb] 23 (0, 0)) ∧ W4.heap[w3.heap.size + 1 + 1 + 1]? = some (.cells #[.int .i64 o, .int .i64 a, .int .i64 b] 72 (0, 0))) := Lib.hid (by
            rw [hW4]
            refine ⟨by simp, (((alloc1 _ _).alloc (by simp) _).alloc (by simp; omega) _).alloc (by simp; omega) _, ?_, ?_, ?_, ?_⟩
            · exact V.alloc_old _ (V.alloc_old _ (V.alloc_old _ (V.alloc_at _ rfl)))
            · exact V.alloc_old _ (V.alloc_old _ (V.alloc_at _ (by simp)))
            · exact V.alloc_old _ (V.alloc_at _ (by simp))
            · exact V.alloc_at _ (by simp))
          gi_wp2
          refine ⟨trivial, ?_⟩
          refine (walk_in (n - 1) A B p.length ca q.length cb o a b _).mono ?_
          rintro e w5 ⟨rfl, hw5⟩
          rw [← hW4] at hw5
          subst hw5
          clear hW4 q0 q1 q2
          simp only [World.size_alloc]
          obtain ⟨hz5, hb5, k1, k2, k3, k4⟩ := HM.out
          have HW5 := Lib.hid (HB3.out.trans (hb5.mono HB3.out.size))
          have hs3 := HB3.out.size
          obtain ⟨X, hX⟩ : ∃ X, X = w3.heap.size := ⟨_, rfl⟩
          rw [← hX] at hz5 k1 k2 k3 k4 hs3 ⊢
          clear HM hb5 HX3 HB3 hX hlt3
          have HPA := Lib.hid ((PrLow.of hqA).kept HW5.out)
          have HPB := Lib.hid ((PrLow.of hqB).kept HW5.out)
          have HFN := Lib.hid (fine_of HRT.out.1 HRT.out.2 HBD.out.1 HBD.out.2.1 HBD.out.2.2 hpl hql)
          have HEN := Lib.hid (show Okt (o, a, b) ∧ Le3 (0, 0, 0) (o, a, b) from ⟨⟨⟨HBD.out.1.1, Int.le_trans HBD.out.1.2 (by decide)⟩, ⟨HBD.out.2.1.1, Int.le_trans HBD.out.2.1.2 (by decide)⟩, ⟨HBD.out.2.2.1, Int.le_trans HBD.out.2.2.2 (by decide)⟩⟩, HBD.out.1.1, HBD.out.2.1.1, HBD.out.2.2.1⟩)
          have HCH := Lib.hid (show chunks p q o a b = walk p q (o, a, b) (0, 0, 0) ∧ err p q o a b = 0 from ⟨if_pos HCN.out, if_pos HCN.out⟩)
          have HLN : Hid ((walk p q (o, a, b) (0, 0, 0)).length ≤ 1200) := Lib.hid (by rw [← HCH.out.1]; exact chunks_len p q o a b)
          gi_wp2
          refine range_cells h1n (gf := 51) (lb := #[.pointer (some ⟨X + 1 + 1 + 1, 0, none⟩), .pointer (some ⟨X + 1, 0, none⟩), .pointer (some ⟨X + 1 + 1, 0, none⟩)]) rfl (enters_of Try.func51 (by kernel_rfl) rfl)
            (walk_tells (n - 1) (by omega) (X + 1 + 1 + 1) (X + 1) (X + 1 + 1) X w.heap.size ca cb 1200 A B p q (o, a, b) HFN.out HRT.out.1 HRT.out.2 HEN.out.1 HEN.out.2 HLN.out w5 (by omega) k1 k4 k2 k3 HPA.out HPB.out) KpX.t (KpX.put (by omega) (by omega)) (fun _ => rfl)
            (fun (pre : List Ck) W => (∃ v, Boxed W X 52 v ∧ W.ownsRow (X + 4) 41 7 v pre.length (ckCells pre) ∧ True) ∧ (Below w.heap.size w W ∧ X + 4 ≤ W.heap.size))
            (OwnFrom.and (Own.from (holdsRow_own (X + 4) X 52 41 7 (fun (pre : List Ck) => pre.length) (fun (pre : List Ck) => ckCells pre) (fun _ _ => True)) _) (OwnFrom.and (ownFrom_below (Nat.le_refl _) (by omega)) (fun _ _ _ _ hs hg _ => boxed_le hs hg)))
            (of_calm (by omega)) ⟨⟨_, k1, World.ownsRow_nil _ _ _ _, trivial⟩, HW5.out, by omega⟩
            (fun (c : Ck) a' W => ∃ Bx, X + 4 ≤ Bx ∧ W.heap[Bx]? = some (.cells #[.bool c.st, .int .i64 c.o, .int .i64 c.on, .int .i64 c.a, .int .i64 c.an, .int .i64 c.b, .int .i64 c.bn] 41 (0, 0)) ∧ a' = { tmps := #[.slice A p.length ca, .slice B q.length cb, .int .i64 o, .int .i64 a, .int .i64 b, undef, undef, undef, undef, undef, u10, u11, .pointer (some ⟨w.heap.size, 0, none⟩), undef, u14, .pointer (some ⟨X, 0, none⟩), .pointer (some ⟨Bx, 0, none⟩), .int .i64 o, .int .i64 a, .int .i64 b, .agg #[.int .i64 o, .int .i64 a, .int .i64 b], .agg #[.int .i64 o, .int .i64 a, .int .i64 b], .int .i64 3, .bool false, u24, u25, u26, u27, u28, u29, u30, u31, .slice A p.length ca, .int .i64 o, .int .i64 a, .bool true, .bool false, .bool false, .slice B q.length cb, .int .i64 o, .int .i64 b, .bool true, .bool false, .bool false, .slice A p.length ca, .slice B q.length cb, .agg #[.int .i64 o, .int .i64 a, .int .i64 b], .func (.func 51) #[] #[.pointer (some ⟨X + 1 + 1 + 1, 0, none⟩), .pointer (some ⟨X + 1, 0, none⟩), .pointer (some ⟨X + 1 + 1, 0, none⟩)], .agg #[.bool c.st, .int .i64 c.o, .int .i64 c.on, .int .i64 c.a, .int .i64 c.an, .int .i64 c.b, .int .i64 c.bn], undef, undef, undef, undef, undef], defers := [] })
            (fun x a' _ X Y row hs hg hr => by
              obtain ⟨Bx, h1, h2, h3⟩ := hs
              exact ⟨Bx, h1, (hg.block Bx (L.blk_lt h2) (fun e => by
                obtain ⟨_, o, ho, hc⟩ := hr Bx e.symm
                rw [h2] at ho; cases ho; cases hc)).trans h2, h3⟩)
            ?assign ?body ?done
          case assign =>
            rintro lp pre c W K ⟨⟨v, hv, hrow, -⟩, hB, hs4⟩ hK
            dsimp only [ckV] at hK ⊢
            gi_wp2
            exact hK _ _ ((KeepsOthers.alloc _ _).from _) (KpX.of (alloc1 _ _) (by have := hB.size; omega) (by omega)) ⟨⟨v, hv.alloc _, hrow.alloc _, trivial⟩, hB.alloc hB.size _, by simp; omega⟩ ⟨W.heap.size, by omega, heap_alloc_new W _, rfl⟩
          case body =>
            rintro lp pre c a' W ⟨⟨v, hv, hrow, -⟩, hB, hs4⟩ ⟨Bx, hBx, hbX, rfl⟩ hlt
            obtain ⟨cst, co, con, cca, can, ccb, cbn⟩ := c
            simp only at hbX ⊢
            have hc := hv.cell
            have hbs := hB.size
            have g0 := L.blk_cell hbX 0
            have g1 := L.blk_cell hbX 1
            have g2 := L.blk_cell hbX 2
            have g3 := L.blk_cell hbX 3
            have g4 := L.blk_cell hbX 4
            have g5 := L.blk_cell hbX 5
            have g6 := L.blk_cell hbX 6
            simp only [List.getElem?_toArray, List.getElem?_cons_zero, List.getElem?_cons_succ] at g0 g1 g2 g3 g4 g5 g6
            clear k1 k2 k3 k4 hqA hqB HPA HPB
            gi_wp2_with (gi_at_builtin; refine wpListIn_lies _ rfl _ _ 52 rfl (X + 4) 41 i0 _ 7 56 Try.underlying52 hi0 hz0 hz1 hz2 rfl (by decide) v pre.length (ckCells pre) rfl (hrow.alloc _) ⟨W.heap.size, 0, none⟩ 1 1 [.bool cst, .int .i64 co, .int .i64 con, .int .i64 cca, .int .i64 can, .int .i64 ccb, .int .i64 cbn] rfl rfl (World.news_of_block (heap_alloc_new W _)) (by intro u hu; simp at hu; rcases hu with rfl | rfl | rfl | rfl | rfl | rfl | rfl <;> rfl) (by decide) (by unfold maxLen; omega) (by omega) (by simp; omega) ?_; intro g' cap' w1 hown' hgrow hat' hlt'; obtain ⟨hv1, hv2, hr2, hk2, hb2⟩ := V.appendedZ (n₀ := w.heap.size) (za := X + 1) (zb := X + 4) hv (by decide) hrow hs4 (by omega) (by omega) (by omega) (by omega) hown' hgrow; have hc1 := hv1.cell; have hf1 := hv1.frozen)
            have e6 : ckCells pre ++ [.bool cst, .int .i64 co, .int .i64 con, .int .i64 cca, .int .i64 can, .int .i64 ccb, .int .i64 cbn] = ckCells (pre ++ [⟨cst, co, con, cca, can, ccb, cbn⟩]) := (ckCells_snoc pre ⟨cst, co, con, cca, can, ccb, cbn⟩).symm
            have e7 : (pre ++ [(⟨cst, co, con, cca, can, ccb, cbn⟩ : Ck)]).length = pre.length + 1 := by simp
            refine ⟨hk2.from _, ⟨hb2.1, by have := hgrow.size; simp at this ⊢; omega, fun k cs t hk ht => ?_, fun g hg => ?_⟩, ⟨⟨_, hv2, ?_, trivial⟩, hB.trans hb2.1, Nat.le_trans hs4 hb2.1.size⟩⟩
            · have hkX : k ≠ X := fun e => by
                subst e
                rw [show W.heap[k]? = _ from hv] at hk
                injection hk with hk
                injection hk with _ hk
                rcases ht with ht | ht | ⟨ht, -⟩ <;> (rw [ht] at hk; exact absurd hk (by decide))
              have hko : v.ownBlock ≠ some k := by
                rcases ht with ht | ht | ⟨ht, hx⟩
                · subst ht; exact V.own_type hrow hk (by decide)
                · subst ht; exact V.own_type hrow hk (by decide)
                · exact fun e => hx ⟨v, hc, e⟩
              rw [L.blk_far hkX _, hgrow.block k (by have := L.blk_lt hk; simp; omega) (fun e => hko e.symm)]
              exact (alloc1 _ _).block k (L.blk_lt hk)
            · obtain ⟨u, hu1, hu2⟩ := hg
              rw [boxed_cell hv2] at hu1
              injection hu1 with hu1
              subst hu1
              simp only [Value.ownBlock, Option.some.injEq] at hu2
              subst hu2
              rcases hat' with h1 | h1
              · exact .inl ⟨v, hc, h1⟩
              · exact .inr ⟨by rw [h1]; simp, by simpa using hlt'⟩
            · rw [← e6, e7]
              exact hr2
          case done =>
            rintro D ys W hD rfl ⟨⟨v, hv, hrow, -⟩, hB, hs4⟩ hK
            have hc := hv.cell
            clear k1 k2 k3 k4 hqA hqB HPA HPB
            obtain ⟨VA, vc, rfl, -, -⟩ := own_form hrow
            gi_wp2
            refine ⟨by simp, .inl ⟨_, _, rfl, run_takeDeferred hK, ?_⟩⟩
            refine ⟨.tuple #[.slice VA (walk p q (o, a, b) (0, 0, 0)).length vc, .int .i64 0], by simp [results, Try.results24, go_sem], ?_⟩
            rw [HCH.out.1, HCH.out.2]
            exact ⟨VA, vc, rfl, own_more (ownsRow_putObj hrow _ hK rfl) (by omega), hB.trans (belowK_b (w := w5) (by omega) W D _ _ (by omega) hK rfl rfl)⟩
        · have hr2 : right q o b = false := by simpa using h2
          rw [hr2] at HRB
          have HV := Lib.hid (bad_right (Or.inr h2) : chunks p q o a b = [] ∧ err p q o a b = 2)
          clear hr2
          gi_wp2
          refine ⟨trivial, ?_⟩
          refine (HRA.out _ HB0.out).mono ?_
          rintro e w2 ⟨rfl, hb2⟩
          have HB2 := Lib.hid (HB0.out.trans (hb2.mono HB0.out.size))
          clear hb2
          gi_wp2
          refine ⟨trivial, ?_⟩
          refine (HRB.out _ HB2.out).mono ?_
          rintro e w3 ⟨rfl, hb3⟩
          have HB3 := Lib.hid (HB2.out.trans (hb3.mono HB2.out.size))
          clear hb3
          gi_wp2
          refine ⟨.tuple #[.slice none 0 0, .int .i64 2], by simp [results, Try.results24, go_sem], ?_⟩
          rw [HV.out.1, HV.out.2]
          exact ⟨none, 0, rfl, World.ownsRow_nil _ _ _ _, HB3.out⟩
      · have hr1 : right p o a = false := by simpa using h1
        rw [hr1] at HRA
        have HV := Lib.hid (bad_right (Or.inl h1) : chunks p q o a b = [] ∧ err p q o a b = 2)
        clear hr1
        gi_wp2
        refine ⟨trivial, ?_⟩
        refine (HRA.out _ HB0.out).mono ?_
        rintro e w2 ⟨rfl, hb2⟩
        have HB2 := Lib.hid (HB0.out.trans (hb2.mono HB0.out.size))
        clear hb2
        gi_wp2
        refine ⟨trivial, ?_⟩
        gi_wp2
        refine ⟨.tuple #[.slice none 0 0, .int .i64 2], by simp [results, Try.results24, go_sem], ?_⟩
        rw [HV.out.1, HV.out.2]
        exact ⟨none, 0, rfl, World.ownsRow_nil _ _ _ _, HB2.out⟩
theorem of_any (A B : Option Addr) (ca cb : Nat) (p q : List Pr) (o a b : Int) (w : World) (hpl : p.length ≤ 1000) (hql : q.length ≤ 1000) (hA : PrIn w A p) (hB : PrIn w B q) :
    Calls Try.prog 24 #[.slice A p.length ca, .slice B q.length cb, .int .i64 o, .int .i64 a, .int .i64 b] w (CkEnd w (chunks p q o a b) (err p q o a b)) := callsIn_wide.1 (of_in 8 (Nat.le_refl _) A B ca cb p q o a b w hpl hql hA hB)
end Go.Proofs.Ytkflhcfopejigaa.Ck

namespace Go.Proofs.Ytkflhcfopejigaa.Ck
set_option linter.unusedVariables false
set_option linter.unusedSimpArgs false
open Go.RowKit Go.Shelf
open T
open Mt (Pr fnd Rt right)
open N (PrIn PrIn.below)
open V (drawn_below grown_of)
open I (alloc1)

/-- Do chunks lie one behind the other, from t on, up to e? -/
def good (t e : Tr) (c : Ck) : Prop := (c.o = t.1 ∧ c.a = t.2.1 ∧ c.b = t.2.2) ∧ (0 ≤ c.on ∧ 0 ≤ c.an ∧ 0 ≤ c.bn) ∧ ¬ (c.on = 0 ∧ c.an = 0 ∧ c.bn = 0) ∧ (c.st = true → c.on = c.an ∧ c.an = c.bn) ∧ (c.on ≤ e.1 - t.1 ∧ c.an ≤ e.2.1 - t.2.1 ∧ c.bn ≤ e.2.2 - t.2.2)
instance (t e : Tr) (c : Ck) : Decidable (good t e c) := by unfold good; exact inferInstance
def next (t : Tr) (c : Ck) : Tr := (t.1 + c.on, t.2.1 + c.an, t.2.2 + c.bn)
def ckr : Tr → Tr → List Ck → Bool
  | t, e, [] => decide (t = e)
  | t, e, c :: r => decide (good t e c) && ckr (next t c) e r
def cright (l : List Ck) (o a b : Int) : Bool := ckr (0, 0, 0) (o, a, b) l
/-- Chunks in memory, to be read. -/
def CkIn (w : World) (A : Option Addr) (l : List Ck) : Prop := 0 < l.length → ∃ bk off, A = some ⟨bk, off, none⟩ ∧ bk < w.heap.size ∧ ∀ j (hj : j < l.length), w.cell? ⟨bk, off + j * 7, none⟩ = some (.bool l[j].st) ∧ w.cell? ⟨bk, off + j * 7 + 1, none⟩ = some (.int .i64 l[j].o) ∧ w.cell? ⟨bk, off + j * 7 + 2, none⟩ = some (.int .i64 l[j].on) ∧ w.cell? ⟨bk, off + j * 7 + 3, none⟩ = some (.int .i64 l[j].a) ∧ w.cell? ⟨bk, off + j * 7 + 4, none⟩ = some (.int .i64 l[j].an) ∧ w.cell? ⟨bk, off + j * 7 + 5, none⟩ = some (.int .i64 l[j].b) ∧ w.cell? ⟨bk, off + j * 7 + 6, none⟩ = some (.int .i64 l[j].bn)
theorem CkIn.below {w w' : World} {A : Option Addr} {l : List Ck} (h : CkIn w A l) (hb : Below w.heap.size w w') : CkIn w' A l := fun hp => by
  obtain ⟨bk, off, e, hlt, hl⟩ := h hp
  refine ⟨bk, off, e, Nat.lt_of_lt_of_le hlt hb.size, fun j hj => ?_⟩
  obtain ⟨h0, h1, h2, h3, h4, h5, h6⟩ := hl j hj
  exact ⟨(hb.cell (p := ⟨bk, off + j * 7, none⟩) hlt).trans h0, (hb.cell (p := ⟨bk, off + j * 7 + 1, none⟩) hlt).trans h1, (hb.cell (p := ⟨bk, off + j * 7 + 2, none⟩) hlt).trans h2, (hb.cell (p := ⟨bk, off + j * 7 + 3, none⟩) hlt).trans h3, (hb.cell (p := ⟨bk, off + j * 7 + 4, none⟩) hlt).trans h4, (hb.cell (p := ⟨bk, off + j * 7 + 5, none⟩) hlt).trans h5, (hb.cell (p := ⟨bk, off + j * 7 + 6, none⟩) hlt).trans h6⟩
theorem ckCells_at : ∀ (l : List Ck) (j : Nat) (h : j < l.length), (ckCells l)[j * 7]? = some (.bool l[j].st) ∧ (ckCells l)[j * 7 + 1]? = some (.int .i64 l[j].o) ∧ (ckCells l)[j * 7 + 2]? = some (.int .i64 l[j].on) ∧ (ckCells l)[j * 7 + 3]? = some (.int .i64 l[j].a) ∧ (ckCells l)[j * 7 + 4]? = some (.int .i64 l[j].an) ∧ (ckCells l)[j * 7 + 5]? = some (.int .i64 l[j].b) ∧ (ckCells l)[j * 7 + 6]? = some (.int .i64 l[j].bn)
  | [], j, h => by simp at h
  | c :: r, 0, _ => ⟨rfl, rfl, rfl, rfl, rfl, rfl, rfl⟩
  | c :: r, j + 1, h => by
    have := ckCells_at r j (by simpa using h)
    rw [show (j + 1) * 7 = j * 7 + 7 by omega, show j * 7 + 7 + 1 = j * 7 + 1 + 7 by omega, show j * 7 + 7 + 2 = j * 7 + 2 + 7 by omega, show j * 7 + 7 + 3 = j * 7 + 3 + 7 by omega, show j * 7 + 7 + 4 = j * 7 + 4 + 7 by omega, show j * 7 + 7 + 5 = j * 7 + 5 + 7 by omega, show j * 7 + 7 + 6 = j * 7 + 6 + 7 by omega]
    exact this
theorem ck_own {w : World} {base : Nat} {A : Option Addr} {cap : Nat} {l : List Ck} (h : w.ownsRow base 41 7 (.slice A l.length cap) l.length (ckCells l)) : CkIn w A l := fun hp => by
  obtain ⟨g, hA, _, hlt, hc⟩ := I.own_at h hp
  refine ⟨g, 0, hA, hlt, fun j hj => ?_⟩
  obtain ⟨h0, h1, h2, h3, h4, h5, h6⟩ := ckCells_at l j hj
  rw [Nat.zero_add]
  exact ⟨hc _ _ h0, hc _ _ h1, hc _ _ h2, hc _ _ h3, hc _ _ h4, hc _ _ h5, hc _ _ h6⟩

theorem ck_eql (w : World) (x : Ck) : (binOp .eql 41 (ckV x) (ckV x)).run Try.prog w = .ok (.bool true) w := by
  have u3 := Try.underlying3
  have u4 := Try.underlying4
  have hS : Try.prog.underlying 41 = some (.struct (Try.prog.fieldsOf 41)) := by kernel_rfl
  have hp : Try.prog.stoodInHeld 41 = false := by kernel_rfl
  have z3 : Try.prog.cellsOf 3 = 1 := by kernel_rfl
  have z4 : Try.prog.cellsOf 4 = 1 := by kernel_rfl
  simp only [ckV]
  rw [run_eql_struct, show (10000 : Nat) = 9999 + 1 from rfl, run_equalIn_agg w 9999 41 _ _ hS hp]
  simp only [Program.fieldsOf, Try.underlying41]
  go_simp
end Go.Proofs.Ytkflhcfopejigaa.Ck

namespace Go.Proofs.Ytkflhcfopejigaa.Ck
set_option linter.unusedVariables false
set_option linter.unusedSimpArgs false
open Go.RowKit
/-- Numbers that a machine's word holds. -/
def W64 (x : Int) : Prop := -9223372036854775808 ≤ x ∧ x ≤ 9223372036854775807
def WfC (c : Ck) : Prop := W64 c.o ∧ W64 c.on ∧ W64 c.a ∧ W64 c.an ∧ W64 c.b ∧ W64 c.bn
/-- Where Right stands: at the beginning, or not behind the end. -/
def Inv (t e : Tr) : Prop := (0 ≤ t.1 ∧ (t.1 = 0 ∨ t.1 ≤ e.1)) ∧ (0 ≤ t.2.1 ∧ (t.2.1 = 0 ∨ t.2.1 ≤ e.2.1)) ∧ (0 ≤ t.2.2 ∧ (t.2.2 = 0 ∨ t.2.2 ≤ e.2.2))
theorem Inv.next {t e : Tr} {c : Ck} (h : Inv t e) (hg : good t e c) : Inv (next t c) e := by
  obtain ⟨⟨h1, h2⟩, ⟨h3, h4⟩, ⟨h5, h6⟩⟩ := h
  obtain ⟨-, ⟨g1, g2, g3⟩, -, -, g4, g5, g6⟩ := hg
  unfold Inv Ck.next
  simp only
  omega
theorem ckr_at {l : List Ck} {k : Nat} (hk : k < l.length) (t e : Tr) : ckr t e (l.drop k) = (decide (good t e l[k]) && ckr (next t l[k]) e (l.drop (k + 1))) := by rw [List.drop_eq_getElem_cons hk, ckr]
end Go.Proofs.Ytkflhcfopejigaa.Ck
