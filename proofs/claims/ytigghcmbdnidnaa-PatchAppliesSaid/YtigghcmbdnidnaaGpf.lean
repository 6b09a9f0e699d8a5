/-
  The lines of a script, laid in order: plain; the box of done beside two rows of lines.
  What Normal comes to.
  What Sides comes to.
  slices.Equal and the reference's Same on any two rows of lines.
  What Apply, slices.Clone of edits and Invert come to.
-/
import Derived.Test.YtigghcmbdnidnaaGpe
import Derived.Test.YtigghcmbdnidnaaGpc
import Derived.Laws.StructEq
import Derived.Laws.OwnMore
namespace Go.Proofs.Ytigghcmbdnidnaa.S
open Go.RowKit
open T
open V (grown_of IntsIn numCells numCells_snoc ints_own drawn_below)
open I (alloc1 own_at own_below)
open N (Ln)

def tag (s : Int) (l : List Ln) : List Sl := l.map fun x => (s, x)
theorem tag_fst (s : Int) (l : List Ln) : (tag s l).map (·.1) = l.map fun _ => s := by simp [tag]
theorem tag_snd (s : Int) (l : List Ln) : (tag s l).map (·.2) = l := by
  induction l with
  | nil => rfl
  | cons x r ih => rw [tag, List.map_cons, List.map_cons]; exact congrArg (x :: ·) ih
theorem tag_len (s : Int) (l : List Ln) : (tag s l).length = l.length := by simp [tag]
/-- What is laid, what is to be taken out, what is to be put in. -/
structure Nst where
  d : List Sl
  o : List Ln
  i : List Ln
def nst (t : Nst) (e : Ed) : Nst := if e.1 = 2 then ⟨t.d, t.o ++ e.2, t.i⟩ else if e.1 = 3 then ⟨t.d, t.o, t.i ++ e.2⟩ else if e.2 = [] then t else ⟨t.d ++ tag 2 t.o ++ tag 3 t.i ++ tag 1 e.2, [], []⟩
def nsts (es : List Ed) : Nst := es.foldl nst ⟨[], [], []⟩
def laid (es : List Ed) : List Sl := (nsts es).d ++ tag 2 (nsts es).o ++ tag 3 (nsts es).i
def norm (es : List Ed) : List Ed := grp (laid es)
def nlen (t : Nst) : Nat := t.d.length + t.o.length + t.i.length
theorem nst_len (t : Nst) (e : Ed) : nlen (nst t e) = nlen t + e.2.length := by
  unfold nst nlen
  split
  · simp; omega
  · split
    · simp; omega
    · split
      · rename_i h; simp [h]
      · simp [tag_len]; omega
theorem nsts_len (es : List Ed) : nlen (nsts es) = tl es := by
  have key : ∀ (r : List Ed) (t : Nst), nlen (r.foldl nst t) = nlen t + tl r := by
    intro r
    induction r with
    | nil => intro t; simp [tl]
    | cons e r ih => intro t; rw [List.foldl_cons, ih, nst_len]; simp [tl]; omega
  rw [nsts, key]
  simp [nlen]
theorem nsts_take {es : List Ed} {k : Nat} (hk : k < es.length) : nsts (es.take (k + 1)) = nst (nsts (es.take k)) es[k] := by
  unfold nsts
  rw [List.take_succ_eq_append_getElem hk, List.foldl_append]
  rfl
/-- No block is both rows'. -/
def Apart (v v' : Value) : Prop := ∀ k, v.ownBlock = some k → v'.ownBlock ≠ some k
theorem Apart.symm {v v' : Value} (h : Apart v v') : Apart v' v := fun k hk hk' => h k hk' hk
theorem Apart.nil (v : Value) : Apart v (.slice none 0 0) := fun k _ h => by cases h
theorem Apart.new {v v' u : Value} {H : Nat} (h : Apart v v') (hn : u.ownBlock = v.ownBlock ∨ ∃ g, u.ownBlock = some g ∧ H ≤ g) (hv : ∀ k, v'.ownBlock = some k → k < H) : Apart u v' := fun k hk hk' => by
  rcases hn with e | ⟨g, e, hg⟩
  · exact h k (e.symm.trans hk) hk'
  · have := hv k hk'
    rw [e] at hk
    injection hk with hk
    omega
theorem own_lt {w : World} {base : Nat} {e : TypeId} {size n : Nat} {v : Value} {xs : List Value} (h : w.ownsRow base e size v n xs) : ∀ k, v.ownBlock = some k → k < w.heap.size := fun k hk => by
  obtain ⟨cs, hh⟩ := own_heap h hk
  exact L.blk_lt hh
theorem own_keep {w w' : World} {base : Nat} {e : TypeId} {size n : Nat} {v v' : Value} {xs : List Value} (h : w.ownsRow base e size v n xs) (hg : w.grownBy w' v'.ownBlock) (ha : Apart v' v) : w'.ownsRow base e size v n xs := by
  refine h.kept hg ?_
  cases hv : v.ownBlock with
  | none => exact .inl rfl
  | some k => exact .inr fun q => ha k q.symm hv
theorem own_addr {w : World} {base : Nat} {e : TypeId} {size n cap m : Nat} {A : Option Addr} {xs : List Value} (h : w.ownsRow base e size (.slice A m cap) n xs) : ∀ p, A = some p → (Value.slice A m cap).ownBlock = some p.block ∧ base ≤ p.block := fun p hp => by
  have hb := own_base h
  rcases h.2 with ⟨e', _⟩ | ⟨g, cap, cur, e', hg, _⟩
  · injection e' with e' _ _; subst hp; cases e'
  · injection e' with e' _ _
    subst hp
    injection e' with e'
    subst e'
    exact ⟨rfl, hg⟩
theorem own_none {w : World} {base : Nat} {e : TypeId} {size n cap m : Nat} {xs : List Value} (h : w.ownsRow base e size (.slice none m cap) n xs) : cap = 0 := by
  rcases h.2 with ⟨e', _⟩ | ⟨g, cap, cur, e', hg, _⟩
  · injection e'
  · injection e' with e' _ _; cases e'
theorem own_lines {w : World} {base cap : Nat} {A : Option Addr} {l : List Ln} (h : w.ownsRow base 59 2 (.slice A l.length cap) l.length (lineCells l)) : LinesIn w A l := fun hp => by
  obtain ⟨A', cap', e, _, h2⟩ := own_form h
  injection e with e1 _ e3
  subst e1 e3
  obtain ⟨g, rfl, _, hgw, hc⟩ := h2 hp
  refine ⟨g, 0, rfl, hgw, fun j hj => ?_⟩
  obtain ⟨q0, q1⟩ := lineCells_at l j hj
  rw [Nat.zero_add]
  exact ⟨hc _ _ q0, hc _ _ q1⟩
theorem FrA.row {w w' : World} {base db : Nat} {vl vs vl' vs' v : Value} {e : TypeId} {size n : Nat} {xs : List Value} (h : FrA w w' db vl vs vl' vs') (ho : w.ownsRow base e size v n xs) (h1 : v.ownBlock ≠ some db) (h2 : Apart vl v) (h3 : Apart vs v) : w'.ownsRow base e size v n xs := by
  refine ⟨ho.1, ?_⟩
  rcases ho.2 with hn | ⟨g, cap, cur, rfl, hb, hgg, rest⟩
  · exact .inl hn
  · refine .inr ⟨g, cap, cur, rfl, hb, ?_, rest⟩
    rw [h.block g (L.blk_lt hgg) (fun e => h1 (by rw [← e]; rfl)) (fun e => h2 g e rfl) (fun e => h3 g e rfl)]
    exact hgg
/-- The box of done, and two rows of lines apart from it. -/
structure Nw (w0 w : World) (base db : Nat) (vl vs vo vi : Value) (t : Nst) : Prop where
  dn : Dn w base db vl vs (t.d.map (·.2)) (t.d.map (·.1))
  o : w.ownsRow base 59 2 vo t.o.length (lineCells t.o)
  i : w.ownsRow base 59 2 vi t.i.length (lineCells t.i)
  lo : Apart vl vo
  li : Apart vl vi
  oi : Apart vo vi
  b : Below w0.heap.size w0 w
  hb : w0.heap.size ≤ base
theorem Nw.below {w0 w w' : World} {base db : Nat} {vl vs vo vi : Value} {t : Nst} (h : Nw w0 w base db vl vs vo vi t) (hb : Below w.heap.size w w') : Nw w0 w' base db vl vs vo vi t :=
  ⟨h.dn.below hb, own_below h.o hb, own_below h.i hb, h.lo, h.li, h.oi, h.b.trans (hb.mono h.b.size), h.hb⟩
theorem Nw.addO {w0 w w' : World} {base db : Nat} {vl vs vo vi vo' : Value} {d : List Sl} {o i l : List Ln} (h : Nw w0 w base db vl vs vo vi ⟨d, o, i⟩) (hg : w.grownBy w' vo.ownBlock) (ho : w'.ownsRow base 59 2 vo' (o ++ l).length (lineCells (o ++ l)))
    (hn : vo'.ownBlock = vo.ownBlock ∨ vo'.ownBlock = some w.heap.size) : Nw w0 w' base db vl vs vo' vi ⟨d, o ++ l, i⟩ := by
  have hn' : vo'.ownBlock = vo.ownBlock ∨ ∃ g, vo'.ownBlock = some g ∧ w.heap.size ≤ g := by
    rcases hn with e | e
    · exact .inl e
    · exact .inr ⟨_, e, Nat.le_refl _⟩
  have hd : vo.ownBlock ≠ some db := own_type h.o h.dn.blk (by decide)
  exact ⟨⟨h.dn.hb, (hg.block db h.dn.lt (fun e => hd e.symm)).trans h.dn.blk, own_keep h.dn.l hg h.lo.symm, own_grown h.dn.s h.o (by decide) hg⟩, ho, own_keep h.i hg h.oi,
    (Apart.new h.lo.symm hn' (own_lt h.dn.l)).symm, h.li, Apart.new h.oi hn' (own_lt h.i), h.b.grown hg h.b.size (fun q e => Nat.le_trans h.hb (own_base h.o q e)), h.hb⟩
theorem Nw.turn {w0 w : World} {base db : Nat} {vl vs vo vi : Value} {d : List Sl} {o i : List Ln} (h : Nw w0 w base db vl vs vo vi ⟨d, o, i⟩) : Nw w0 w base db vl vs vi vo ⟨d, i, o⟩ :=
  ⟨h.dn, h.i, h.o, h.li, h.lo, h.oi.symm, h.b, h.hb⟩
theorem Nw.put {w0 w w' : World} {base db : Nat} {vl vs vo vi vl' vs' : Value} {d d' : List Sl} {o i : List Ln} (h : Nw w0 w base db vl vs vo vi ⟨d, o, i⟩) (hd : Dn w' base db vl' vs' (d'.map (·.2)) (d'.map (·.1))) (hf : FrA w w' db vl vs vl' vs') : Nw w0 w' base db vl' vs' vo vi ⟨d', o, i⟩ := by
  have e1 : vo.ownBlock ≠ some db := own_type h.o h.dn.blk (by decide)
  have e2 : vi.ownBlock ≠ some db := own_type h.i h.dn.blk (by decide)
  have e3 : Apart vs vo := fun k hk => own_apart h.dn.s h.o (by decide) hk
  have e4 : Apart vs vi := fun k hk => own_apart h.dn.s h.i (by decide) hk
  have hb := h.hb
  have hdb := h.dn.hb
  refine ⟨hd, hf.row h.o e1 h.lo e3, hf.row h.i e2 h.li e4, Apart.new h.lo hf.nl (own_lt h.o), Apart.new h.li hf.nl (own_lt h.i), h.oi, h.b.trans ⟨hf.os, hf.tape, hf.output, hf.size, fun k hk => ?_⟩, hb⟩
  have := h.b.size
  exact hf.block k (by omega) (by omega) (fun e => by have := own_base h.dn.l k e; omega) (fun e => by have := own_base h.dn.s k e; omega)
theorem Nw.clear {w0 w : World} {base db : Nat} {vl vs vo vi : Value} {d : List Sl} {o i : List Ln} (h : Nw w0 w base db vl vs vo vi ⟨d, o, i⟩) : Nw w0 w base db vl vs (.slice none 0 0) (.slice none 0 0) ⟨d, [], []⟩ :=
  ⟨h.dn, World.ownsRow_nil _ _ _ _, World.ownsRow_nil _ _ _ _, Apart.nil _, Apart.nil _, Apart.nil _, h.b, h.hb⟩
/-- The rows, as add wants them. -/
theorem Nw.far {w0 w : World} {base db n cap : Nat} {vl vs vi : Value} {d : List Sl} {o i : List Ln} {A : Option Addr} (h : Nw w0 w base db vl vs (.slice A n cap) vi ⟨d, o, i⟩) : ∀ p, A = some p → p.block ≠ db ∧ vl.ownBlock ≠ some p.block ∧ vs.ownBlock ≠ some p.block := fun p hp => by
  have e0 := (own_addr h.o p hp).1
  exact ⟨fun e => own_type h.o h.dn.blk (by decide) (by rw [e0, e]), fun e => h.lo _ e e0, fun e => own_apart h.dn.s h.o (by decide) e e0⟩
theorem Nw.box {w0 w w' : World} {base db x : Nat} {vl vs vo vi vl' vs' : Value} {t : Nst} {cs : Array Value} (h : Nw w0 w base db vl vs vo vi t) (hx : w.heap[x]? = some (.cells cs 54 (0, 0))) (hf : FrA w w' db vl vs vl' vs') : w'.heap[x]? = some (.cells cs 54 (0, 0)) := by
  rw [hf.block x (L.blk_lt hx) (fun e => by
    have := h.dn.blk
    rw [← e, hx] at this
    injection this with this
    injection this with _ this
    exact absurd this (by decide)) (own_type h.dn.l hx (by decide)) (own_type h.dn.s hx (by decide))]
  exact hx
theorem Nw.far0 {w0 w : World} {base db : Nat} {vl vs vo vi : Value} {t : Nst} {A : Option Addr} (h : Nw w0 w base db vl vs vo vi t) (hA : ∀ p, A = some p → p.block < w0.heap.size) : ∀ p, A = some p → p.block ≠ db ∧ vl.ownBlock ≠ some p.block ∧ vs.ownBlock ≠ some p.block := fun p hp => by
  have h0 := hA p hp
  have h1 := h.hb
  have h2 := h.dn.hb
  exact ⟨by omega, fun e => by have := own_base h.dn.l _ e; omega, fun e => by have := own_base h.dn.s _ e; omega⟩
theorem map_tag1 (d : List Sl) (s : Int) (l : List Ln) : d.map (·.2) ++ l = (d ++ tag s l).map (·.2) := by rw [List.map_append, tag_snd]
theorem map_tag2 (d : List Sl) (s : Int) (l : List Ln) : (d.map (·.1) ++ l.map fun _ => s) = (d ++ tag s l).map (·.1) := by rw [List.map_append, tag_fst]
end Go.Proofs.Ytigghcmbdnidnaa.S

namespace Go.Proofs.Ytigghcmbdnidnaa.S
open Go.RowKit
open T
open V (grown_of IntsIn numCells numCells_snoc ints_own drawn_below)
open I (alloc1 own_at own_below)
open N (Ln)

/-- A script and an error. -/
def NrEnd (w : World) (r : List Ed) (e0 : Int) (e : Ending) (w' : World) : Prop :=
  ∃ A cap, e = .returned (.tuple #[.slice A r.length cap, .int .i64 e0]) ∧ (EdsIn w.heap.size w' A r ∧ r.length ≤ cap) ∧ Below w.heap.size w w'
def nrm (es : List Ed) : List Ed := if ck es = 0 then norm es else []

set_option maxRecDepth 100000 in
set_option maxHeartbeats 4000000 in
theorem normal_bad (A : Option Addr) (c b : Nat) (es : List Ed) (w : World) (hE : EdsIn b w A es) (hok : EdsOk es) (hc : ck es ≠ 0) :
    Calls Try.prog 49 #[.slice A es.length c] w (NrEnd w [] (ck es)) := by
  have HC := Lib.hid (check_any A c b es w hE hok)
  generalize ck es = q at *
  have h0 : (q == 0) = false := beq_eq_false_iff_ne.2 hc
  have h1 : (q != 0) = true := by simp [bne, h0]
  clear hE hok hc
  go_enter Try.func49, Try.ntmps49
  go_wp2_with fail
  with_reducible refine (HC.out).mono ?_
  rintro e w1 ⟨rfl, hb1⟩
  go_wp2_with fail
  go_ret2
  exact ⟨none, 0, rfl, ⟨fun h => absurd h (by simp), Nat.zero_le _⟩, hb1⟩
set_option maxRecDepth 100000 in
set_option maxHeartbeats 4000000 in
theorem normal_good (A : Option Addr) (c b : Nat) (es : List Ed) (w : World) (hE : EdsIn b w A es) (hok : EdsOk es) (hc : ck es = 0) :
    Calls Try.prog 49 #[.slice A es.length c] w (NrEnd w (norm es) 0) := by
  have HC := Lib.hid (check_any A c b es w hE hok)
  rw [hc] at HC
  obtain ⟨hel, htl, hd3⟩ := ck_ok hc
  have HE := Lib.hid hE
  have HD3 := Lib.hid hd3
  clear hE hok hc hd3
  go_enter Try.func49, Try.ntmps49
  go_wp2_with fail
  with_reducible refine (HC.out).mono ?_
  rintro e w1 ⟨rfl, hb1⟩
  have HB1 := Lib.hid hb1
  clear hb1
  go_upto_region 5 with fail
  obtain ⟨W0, hW0⟩ : ∃ W : World, W = w1.alloc (.cells #[.slice none 0 0, .slice none 0 0] 89) := ⟨_, rfl⟩
  rw [← hW0]
  have HN0 : Hid (Nw w W0 w1.heap.size w1.heap.size (.slice none 0 0) (.slice none 0 0) (.slice none 0 0) (.slice none 0 0) ⟨[], [], []⟩) := Lib.hid (by
    have hs := HB1.out.size
    refine ⟨⟨Nat.le_refl _, by rw [hW0]; exact heap_alloc_new w1 _, World.ownsRow_nil _ _ _ _, World.ownsRow_nil _ _ _ _⟩, World.ownsRow_nil _ _ _ _, World.ownsRow_nil _ _ _ _, Apart.nil _, Apart.nil _, Apart.nil _, ?_, hs⟩
    rw [hW0]; exact HB1.out.trans ((alloc1 _ _).mono hs))
  obtain ⟨db, hdb⟩ : ∃ n, n = w1.heap.size := ⟨_, rfl⟩
  rw [← hdb] at HN0 ⊢
  have hbs : db ≤ W0.heap.size := by rw [hdb, hW0]; simp
  clear hW0 hdb HB1 HC
  go_wp2_with fail
  go_loopg [6, 7, 17] es.length (fun m vo vi iv wr => ∃ (k : Nat) (vl vs : Value) (t : Nst), k ≤ es.length ∧ iv = .int .i64 k ∧ es.length - k ≤ m ∧ Hid (t = nsts (es.take k)) ∧ Hid (Nw w wr db db vl vs vo vi t) ∧ db ≤ wr.heap.size)
  case atStart => exact ⟨0, _, _, _, Nat.zero_le _, rfl, by omega, Lib.hid rfl, HN0, hbs⟩
  case round =>
    clear HN0 hbs
    obtain ⟨k, vl, vs, ⟨td, tu, ti⟩, hk, rfl, hmm, HT, HN, hbr⟩ := hrel
    obtain ⟨oA, ocap, rfl, hoc, -⟩ := own_form HN.out.o
    obtain ⟨iA, icap, rfl, hic, -⟩ := own_form HN.out.i
    have hnl : td.length + tu.length + ti.length ≤ tl es := by
      have h1 := nsts_len (es.take k)
      rw [← HT.out] at h1
      have h2 := tl_le es k
      simp only [nlen] at h1
      omega
    simp only at hoc hic
    have hol : (Nst.mk td tu ti).o.length = tu.length := rfl
    have hil : (Nst.mk td tu ti).i.length = ti.length := rfl
    rw [hol, hil] at *
    clear hol hil
    by_cases hlt : k < es.length
    · obtain ⟨bk, off, hAe, -, hbk, hI⟩ := HE.out (by omega)
      subst hAe
      obtain ⟨LA, lc, g0, g1, g2, -, g4, -⟩ := hI k hlt
      have c0 := (HN.out.b.cell (p := ⟨bk, off + k * 2, none⟩) hbk).trans g0
      have c1 := (HN.out.b.cell (p := ⟨bk, off + k * 2 + 1, none⟩) hbk).trans g1
      have HLI := Lib.hid (g2.below HN.out.b)
      have HLF : Hid (0 < es[k].2.length → ∀ p, LA = some p → p.block < w.heap.size) := Lib.hid (fun h p hp => by
        obtain ⟨q, o', e', hq, -⟩ := g2 h
        rw [e'] at hp; injection hp with hp; rw [← hp]; exact hq)
      have HLN := Lib.hid g4
      have HNS : Hid (nsts (es.take (k + 1)) = nst ⟨td, tu, ti⟩ es[k]) := Lib.hid (by rw [nsts_take hlt, ← HT.out])
      have hel2 := tl_take hlt
      have hel3 := tl_le es (k + 1)
      have hel4 : td.length + tu.length + ti.length + es[k].2.length ≤ 800 := by
        have h1 := nsts_len (es.take k)
        rw [← HT.out] at h1
        simp only [nlen] at h1
        omega
      have H3 := HD3.out _ (List.getElem_mem hlt)
      clear hel2 hel3
      generalize es[k] = e at *
      obtain ⟨d, l⟩ := e
      simp only at c0 c1 hel4 H3 HLI HLF HLN
      obtain ⟨W1, hW1⟩ : ∃ W : World, W = wr.alloc (.cells #[.int .i64 d, .slice LA l.length lc] 54) := ⟨_, rfl⟩
      have hX := heap_alloc_new wr (.cells #[.int .i64 d, .slice LA l.length lc] 54)
      rw [← hW1] at hX
      have x0 := L.blk_cell hX 0
      have x1 := L.blk_cell hX 1
      simp only [List.getElem?_toArray, List.getElem?_cons_zero, List.getElem?_cons_succ] at x0 x1
      have HX := Lib.hid hX
      have HL0 : Hid (LinesIn w LA l) := Lib.hid g2
      have hbel : Below wr.heap.size wr W1 := by rw [hW1]; exact alloc1 _ _
      have HN1 := Lib.hid (HN.out.below hbel)
      have HL1 := Lib.hid (HLI.out.below hbel)
      have hbr1 : db ≤ W1.heap.size := Nat.le_trans hbr hbel.size
      have h0k : (0 : Int) ≤ (k : Int) := by omega
      have hki : (k : Int) < (es.length : Int) := by omega
      clear hI g0 g1 g2 g4 hX hbel HN HLI HT
      rcases H3 with rfl | rfl | rfl
      · have HLG : Hid (∀ p, LA = some p → 0 < l.length → p.block < w.heap.size) := Lib.hid (fun p hp h => HLF.out h p hp)
        obtain ⟨n, hn⟩ : ∃ n, n = l.length := ⟨_, rfl⟩
        have HLE := Lib.hid hn
        by_cases hl0 : l.length = 0
        · have hz : ¬ 0 < l.length := by omega
          have hl1 : decide (0 < l.length) = false := decide_eq_false hz
          have hln : l = [] := List.length_eq_zero_iff.1 hl0
          clear hl0 hn
          have HNT : Hid (nst ⟨td, tu, ti⟩ (1, l) = ⟨td, tu, ti⟩) := Lib.hid (by simp [nst, hln])
          clear hln
          go_upto_region 9 with fail
          rw [← hW1]
          clear hW1
          go_wp2_with fail
          go_roundg (es.length - (k + 1))
          case rel => exact ⟨k + 1, vl, vs, _, by omega, by go_num, Nat.le_refl _, Lib.hid (by rw [HNS.out, HNT.out]), HN1, hbr1⟩
          case measure => omega
        · have hz : 0 < l.length := by omega
          have hl1 : decide (0 < l.length) = true := decide_eq_true hz
          have HNT : Hid (nst ⟨td, tu, ti⟩ (1, l) = ⟨td ++ tag 2 tu ++ tag 3 ti ++ tag 1 l, [], []⟩) := Lib.hid (by
            have hln : l ≠ [] := fun e => hl0 (by rw [e]; rfl)
            simp [nst, hln])
          clear hl0 hn
          go_upto_region 9 with fail
          rw [← hW1]
          obtain ⟨xb, hxb⟩ : ∃ xb, xb = wr.heap.size := ⟨_, rfl⟩
          rw [← hxb] at HX x0 x1 ⊢
          clear hW1 hxb
          go_wp2_with fail
          with_reducible refine (add_any db db vl vs (td.map (·.2)) (td.map (·.1)) 2 oA ocap tu W1 HN1.out.dn (own_lines HN1.out.o) HN1.out.far (by rw [List.length_map]; omega) (by rw [List.length_map]; omega) hbr1).mono ?_
          rintro e w2 ⟨rfl, vl2, vs2, hd2, hf2⟩
          have HN2 := Lib.hid (HN1.out.put (d' := td ++ tag 2 tu) (by rw [← map_tag1, ← map_tag2]; exact hd2) hf2)
          have HX2 := Lib.hid (HN1.out.box HX.out hf2)
          have hbr2 := Nat.le_trans hbr1 hf2.size
          clear hd2 hf2 x0 x1
          go_wp2_with fail
          with_reducible refine (add_any db db vl2 vs2 ((td ++ tag 2 tu).map (·.2)) ((td ++ tag 2 tu).map (·.1)) 3 iA icap ti w2 HN2.out.dn (own_lines HN2.out.i) HN2.out.turn.far (by rw [List.length_map, List.length_append, tag_len]; omega) (by rw [List.length_map, List.length_append, tag_len]; omega) hbr2).mono ?_
          rintro e w3 ⟨rfl, vl3, vs3, hd3, hf3⟩
          have HN3 := Lib.hid (HN2.out.put (d' := td ++ tag 2 tu ++ tag 3 ti) (by rw [← map_tag1, ← map_tag2]; exact hd3) hf3)
          have HX3 := Lib.hid (HN2.out.box HX2.out hf3)
          have hbr3 := Nat.le_trans hbr2 hf3.size
          clear hd3 hf3
          have x1 := L.blk_cell HX3.out 1
          simp only [List.getElem?_toArray, List.getElem?_cons_zero, List.getElem?_cons_succ] at x1
          go_wp2_with fail
          with_reducible refine (add_any db db vl3 vs3 ((td ++ tag 2 tu ++ tag 3 ti).map (·.2)) ((td ++ tag 2 tu ++ tag 3 ti).map (·.1)) 1 LA lc l w3 HN3.out.dn (HL0.out.below HN3.out.b) (HN3.out.far0 (fun p hp => HLG.out p hp hz)) (by rw [List.length_map, List.length_append, List.length_append, tag_len, tag_len]; omega) (by rw [List.length_map, List.length_append, List.length_append, tag_len, tag_len]; omega) hbr3).mono ?_
          rintro e w4 ⟨rfl, vl4, vs4, hd4, hf4⟩
          have HN4 := Lib.hid (HN3.out.put (d' := td ++ tag 2 tu ++ tag 3 ti ++ tag 1 l) (by rw [← map_tag1, ← map_tag2]; exact hd4) hf4)
          have hbr4 := Nat.le_trans hbr3 hf4.size
          clear hd4 hf4 x1
          go_wp2_with fail
          go_roundg (es.length - (k + 1))
          case rel => exact ⟨k + 1, vl4, vs4, _, by omega, by go_num, Nat.le_refl _, Lib.hid (by rw [HNS.out, HNT.out]), Lib.hid HN4.out.clear, hbr4⟩
          case measure => omega
      · go_upto_region 9 with fail
        rw [← hW1]
        clear hW1
        go_wp2_with (at_builtin; refine wpList_append_lines (w := W1) rfl (.tmp 25) (.tmp 27) rfl db (.slice oA tu.length ocap) tu l rfl HN1.out.o LA lc rfl HL1.out HLN.out (by omega) hbr1 ?_; intro v' w4 ho4 hg4 hat4; have HN4 := Lib.hid (HN1.out.addO hg4 ho4 hat4); have hbr4 := Nat.le_trans hbr1 hg4.size; clear ho4 hg4 hat4)
        go_roundg (es.length - (k + 1))
        case rel => exact ⟨k + 1, vl, vs, _, by omega, by go_num, Nat.le_refl _, Lib.hid (by rw [HNS.out]; rfl), HN4, hbr4⟩
        case measure => omega
      · go_upto_region 9 with fail
        rw [← hW1]
        clear hW1
        go_wp2_with (at_builtin; refine wpList_append_lines (w := W1) rfl (.tmp 33) (.tmp 35) rfl db (.slice iA ti.length icap) ti l rfl HN1.out.i LA lc rfl HL1.out HLN.out (by omega) hbr1 ?_; intro v' w4 ho4 hg4 hat4; have HN4 := Lib.hid ((HN1.out.turn.addO hg4 ho4 hat4).turn); have hbr4 := Nat.le_trans hbr1 hg4.size; clear ho4 hg4 hat4)
        go_roundg (es.length - (k + 1))
        case rel => exact ⟨k + 1, vl, vs, _, by omega, by go_num, Nat.le_refl _, Lib.hid (by rw [HNS.out]; rfl), HN4, hbr4⟩
        case measure => omega
    · obtain rfl : k = es.length := by omega
      rw [List.take_length] at HT
      go_wp2_with fail
      with_reducible refine (add_any db db vl vs (td.map (·.2)) (td.map (·.1)) 2 oA ocap tu wr HN.out.dn (own_lines HN.out.o) HN.out.far (by rw [List.length_map]; omega) (by rw [List.length_map]; omega) hbr).mono ?_
      rintro e w2 ⟨rfl, vl2, vs2, hd2, hf2⟩
      have HN2 := Lib.hid (HN.out.put (d' := td ++ tag 2 tu) (by rw [← map_tag1, ← map_tag2]; exact hd2) hf2)
      have hbr2 := Nat.le_trans hbr hf2.size
      clear hd2 hf2
      go_wp2_with fail
      with_reducible refine (add_any db db vl2 vs2 ((td ++ tag 2 tu).map (·.2)) ((td ++ tag 2 tu).map (·.1)) 3 iA icap ti w2 HN2.out.dn (own_lines HN2.out.i) HN2.out.turn.far (by rw [List.length_map, List.length_append, tag_len]; omega) (by rw [List.length_map, List.length_append, tag_len]; omega) hbr2).mono ?_
      rintro e w3 ⟨rfl, vl3, vs3, hd3, hf3⟩
      have HN3 := Lib.hid (HN2.out.put (d' := td ++ tag 2 tu ++ tag 3 ti) (by rw [← map_tag1, ← map_tag2]; exact hd3) hf3)
      have hbr3 := Nat.le_trans hbr2 hf3.size
      have HLD : Hid (laid es = td ++ tag 2 tu ++ tag 3 ti) := Lib.hid (by unfold laid; rw [← HT.out])
      clear hd3 hf3
      go_wp2_with fail
      with_reducible refine (edits_any db db vl3 vs3 (td ++ tag 2 tu ++ tag 3 ti) w3 HN3.out.dn (by simp only [List.length_append, tag_len]; omega) hbr3).mono ?_
      rintro e w4 ⟨RA, rcap, rfl, ⟨hR, hRC⟩, hb4⟩
      rw [← HLD.out] at hR hRC ⊢
      have HRC : Hid ((norm es).length ≤ rcap) := Lib.hid hRC
      have HR : Hid (EdsIn w.heap.size w4 RA (norm es)) := Lib.hid (hR.low HN3.out.hb)
      have HB4 : Hid (Below w.heap.size w w4) := Lib.hid (HN3.out.b.trans (hb4.mono HN3.out.b.size))
      clear hR hRC hb4
      go_wp2_with fail
      go_ret2
      exact ⟨RA, rcap, rfl, ⟨HR.out, HRC.out⟩, HB4.out⟩
end Go.Proofs.Ytigghcmbdnidnaa.S

namespace Go.Proofs.Ytigghcmbdnidnaa.S
open Go.RowKit
open T
open V (grown_of IntsIn numCells numCells_snoc ints_own drawn_below)
open I (alloc1 own_at own_below)
open N (Ln)

/-- The lines of edits but those to which one thing is done. -/
def sd (but : Int) (es : List Ed) : List Ln := es.flatMap fun e => if e.1 = but then [] else e.2
theorem sd_take {but : Int} {es : List Ed} {k : Nat} (hk : k < es.length) : sd but (es.take (k + 1)) = sd but (es.take k) ++ if es[k].1 = but then [] else es[k].2 := by
  unfold sd
  rw [List.take_succ_eq_append_getElem hk, List.flatMap_append]
  simp
theorem sd_len (but : Int) (es : List Ed) : (sd but es).length ≤ tl es := by
  induction es with
  | nil => simp [sd]
  | cons e r ih =>
    have h1 : sd but (e :: r) = (if e.1 = but then [] else e.2) ++ sd but r := by simp [sd]
    have h2 : tl (e :: r) = e.2.length + tl r := by simp [tl]
    rw [h1, h2, List.length_append]
    split
    · simp only [List.length_nil]; omega
    · omega
/-- Two rows of lines that the call owns. -/
structure Sd (w0 w : World) (base : Nat) (vo vi : Value) (o i : List Ln) : Prop where
  o : w.ownsRow base 59 2 vo o.length (lineCells o)
  i : w.ownsRow base 59 2 vi i.length (lineCells i)
  oi : Apart vo vi
  b : Below w0.heap.size w0 w
  hb : w0.heap.size ≤ base
  hs : base ≤ w.heap.size
theorem Sd.below {w0 w w' : World} {base : Nat} {vo vi : Value} {o i : List Ln} (h : Sd w0 w base vo vi o i) (hb : Below w.heap.size w w') : Sd w0 w' base vo vi o i :=
  ⟨own_below h.o hb, own_below h.i hb, h.oi, h.b.trans (hb.mono h.b.size), h.hb, Nat.le_trans h.hs hb.size⟩
theorem Sd.turn {w0 w : World} {base : Nat} {vo vi : Value} {o i : List Ln} (h : Sd w0 w base vo vi o i) : Sd w0 w base vi vo i o := ⟨h.i, h.o, h.oi.symm, h.b, h.hb, h.hs⟩
theorem Sd.addO {w0 w w' : World} {base : Nat} {vo vi vo' : Value} {o i l : List Ln} (h : Sd w0 w base vo vi o i) (hg : w.grownBy w' vo.ownBlock) (ho : w'.ownsRow base 59 2 vo' (o ++ l).length (lineCells (o ++ l)))
    (hn : vo'.ownBlock = vo.ownBlock ∨ vo'.ownBlock = some w.heap.size) : Sd w0 w' base vo' vi (o ++ l) i := by
  have hn' : vo'.ownBlock = vo.ownBlock ∨ ∃ g, vo'.ownBlock = some g ∧ w.heap.size ≤ g := by
    rcases hn with e | e
    · exact .inl e
    · exact .inr ⟨_, e, Nat.le_refl _⟩
  exact ⟨ho, own_keep h.i hg h.oi, Apart.new h.oi hn' (own_lt h.i), h.b.grown hg h.b.size (fun q e => Nat.le_trans h.hb (own_base h.o q e)), h.hb, Nat.le_trans h.hs hg.size⟩
theorem Sd.box {w0 w w' : World} {base x : Nat} {vo vi : Value} {o i : List Ln} {cs : Array Value} (h : Sd w0 w base vo vi o i) (hx : w.heap[x]? = some (.cells cs 54 (0, 0))) (hg : w.grownBy w' vo.ownBlock) : w'.heap[x]? = some (.cells cs 54 (0, 0)) :=
  (hg.block x (L.blk_lt hx) (fun e => own_type h.o hx (by decide) e.symm)).trans hx
/-- Both sides and an error. -/
def SsEnd (w : World) (b a : List Ln) (e0 : Int) (e : Ending) (w' : World) : Prop :=
  ∃ A ca B cb, e = .returned (.tuple #[.slice A b.length ca, .slice B a.length cb, .int .i64 e0]) ∧ Sd w w' w.heap.size (.slice A b.length ca) (.slice B a.length cb) b a
def sides (es : List Ed) : List Ln × List Ln := if ck es = 0 then (sd 3 es, sd 2 es) else ([], [])

set_option maxRecDepth 100000 in
set_option maxHeartbeats 4000000 in
theorem sides_bad (A : Option Addr) (c b : Nat) (es : List Ed) (w : World) (hE : EdsIn b w A es) (hok : EdsOk es) (hc : ck es ≠ 0) :
    Calls Try.prog 52 #[.slice A es.length c] w (SsEnd w [] [] (ck es)) := by
  have HC := Lib.hid (check_any A c b es w hE hok)
  generalize ck es = q at *
  have h0 : (q == 0) = false := beq_eq_false_iff_ne.2 hc
  have h1 : (q != 0) = true := by simp [bne, h0]
  clear hE hok hc
  go_enter Try.func52, Try.ntmps52
  go_wp2_with fail
  with_reducible refine (HC.out).mono ?_
  rintro e w1 ⟨rfl, hb1⟩
  go_wp2_with fail
  go_ret3
  exact ⟨none, 0, none, 0, rfl, World.ownsRow_nil _ _ _ _, World.ownsRow_nil _ _ _ _, Apart.nil _, hb1, Nat.le_refl _, hb1.size⟩
set_option maxRecDepth 100000 in
set_option maxHeartbeats 4000000 in
theorem sides_good (A : Option Addr) (c b : Nat) (es : List Ed) (w : World) (hE : EdsIn b w A es) (hok : EdsOk es) (hc : ck es = 0) :
    Calls Try.prog 52 #[.slice A es.length c] w (SsEnd w (sd 3 es) (sd 2 es) 0) := by
  have HC := Lib.hid (check_any A c b es w hE hok)
  rw [hc] at HC
  obtain ⟨hel, htl, hd3⟩ := ck_ok hc
  have HE := Lib.hid hE
  have HD3 := Lib.hid hd3
  clear hE hok hc hd3
  go_enter Try.func52, Try.ntmps52
  go_wp2_with fail
  with_reducible refine (HC.out).mono ?_
  rintro e w1 ⟨rfl, hb1⟩
  have HS0 : Hid (Sd w w1 w.heap.size (.slice none 0 0) (.slice none 0 0) [] []) := Lib.hid ⟨World.ownsRow_nil _ _ _ _, World.ownsRow_nil _ _ _ _, Apart.nil _, hb1, Nat.le_refl _, hb1.size⟩
  clear hb1 HC
  obtain ⟨hs, hhs⟩ : ∃ n, n = w.heap.size := ⟨_, rfl⟩
  rw [← hhs] at HS0
  have HHS := Lib.hid hhs
  clear hhs
  go_wp2_with fail
  go_loopg [6, 7, 17] es.length (fun m vo vi iv wr => ∃ (k : Nat) (o i : List Ln), k ≤ es.length ∧ iv = .int .i64 k ∧ es.length - k ≤ m ∧ Hid (o = sd 3 (es.take k) ∧ i = sd 2 (es.take k)) ∧ Hid (Sd w wr hs vo vi o i))
  case atStart => exact ⟨0, [], [], Nat.zero_le _, rfl, by omega, Lib.hid ⟨rfl, rfl⟩, HS0⟩
  case round =>
    clear HS0
    obtain ⟨k, o, i, hk, rfl, hmm, HT, HN⟩ := hrel
    obtain ⟨oA, ocap, rfl, hoc, -⟩ := own_form HN.out.o
    obtain ⟨iA, icap, rfl, hic, -⟩ := own_form HN.out.i
    have hol : o.length ≤ 800 := by rw [HT.out.1]; have := sd_len 3 (es.take k); have := tl_le es k; omega
    have hil : i.length ≤ 800 := by rw [HT.out.2]; have := sd_len 2 (es.take k); have := tl_le es k; omega
    by_cases hlt : k < es.length
    · obtain ⟨bk, off, hAe, -, hbk, hI⟩ := HE.out (by omega)
      subst hAe
      obtain ⟨LA, lc, g0, g1, g2, -, g4, -⟩ := hI k hlt
      have c0 := (HN.out.b.cell (p := ⟨bk, off + k * 2, none⟩) hbk).trans g0
      have c1 := (HN.out.b.cell (p := ⟨bk, off + k * 2 + 1, none⟩) hbk).trans g1
      have HL0 : Hid (LinesIn w LA es[k].2) := Lib.hid g2
      have HLN := Lib.hid g4
      have hel4 : es[k].2.length ≤ 800 := by have := tl_take hlt; have := tl_le es (k + 1); omega
      have H3 := HD3.out _ (List.getElem_mem hlt)
      have HNS : Hid (sd 3 (es.take (k + 1)) = o ++ (if es[k].1 = 3 then [] else es[k].2) ∧ sd 2 (es.take (k + 1)) = i ++ (if es[k].1 = 2 then [] else es[k].2)) := Lib.hid ⟨by rw [sd_take hlt, ← HT.out.1], by rw [sd_take hlt, ← HT.out.2]⟩
      generalize es[k] = e at *
      obtain ⟨d, l⟩ := e
      simp only at c0 c1 hel4 H3 HL0 HLN
      obtain ⟨W1, hW1⟩ : ∃ W : World, W = wr.alloc (.cells #[.int .i64 d, .slice LA l.length lc] 54) := ⟨_, rfl⟩
      have hX := heap_alloc_new wr (.cells #[.int .i64 d, .slice LA l.length lc] 54)
      rw [← hW1] at hX
      have x0 := L.blk_cell hX 0
      have x1 := L.blk_cell hX 1
      simp only [List.getElem?_toArray, List.getElem?_cons_zero, List.getElem?_cons_succ] at x0 x1
      have HX := Lib.hid hX
      have hbel : Below wr.heap.size wr W1 := by rw [hW1]; exact alloc1 _ _
      have HN1 := Lib.hid (HN.out.below hbel)
      have hbr1 := HN1.out.hs
      have HL1 := Lib.hid (HL0.out.below HN1.out.b)
      have h0k : (0 : Int) ≤ (k : Int) := by omega
      have hki : (k : Int) < (es.length : Int) := by omega
      clear hI g0 g1 g2 g4 hX hbel HN HT
      rcases H3 with rfl | rfl | rfl
      · go_upto_region 8 with fail
        rw [← hW1]
        obtain ⟨xb, hxb⟩ : ∃ xb, xb = wr.heap.size := ⟨_, rfl⟩
        rw [← hxb] at HX x0 x1 ⊢
        clear hW1 hxb
        go_wp2_with ((first | (at_builtin; refine wpList_append_lines (w := W1) rfl (.tmp 33) (.tmp 35) rfl hs (.slice iA i.length icap) i l rfl HN1.out.i LA lc rfl HL1.out HLN.out (by omega) hbr1 ?_; intro v' w4 ho4 hg4 hat4; have HN4 := Lib.hid (HN1.out.turn.addO hg4 ho4 hat4); have HX4 := Lib.hid (HN1.out.turn.box HX.out hg4); clear ho4 hg4 hat4; have x1 := L.blk_cell HX4.out 1; simp only [List.getElem?_toArray, List.getElem?_cons_zero, List.getElem?_cons_succ] at x1; have hbr4 := HN4.out.hs; have HL4 := Lib.hid (HL0.out.below HN4.out.b)) | (at_builtin; refine wpList_append_lines (w := w4) rfl (.tmp 37) (.tmp 39) rfl hs (.slice oA o.length ocap) o l rfl HN4.out.i LA lc rfl HL4.out HLN.out (by omega) hbr4 ?_; intro v5 w5 ho5 hg5 hat5; have HN5 := Lib.hid (HN4.out.turn.addO hg5 ho5 hat5); clear ho5 hg5 hat5)))
        go_roundg (es.length - (k + 1))
        case rel => exact ⟨k + 1, _, _, by omega, by go_num, Nat.le_refl _, Lib.hid ⟨HNS.out.1.symm, HNS.out.2.symm⟩, HN5⟩
        case measure => omega
      · go_upto_region 8 with fail
        rw [← hW1]
        clear hW1
        go_wp2_with (at_builtin; refine wpList_append_lines (w := W1) rfl (.tmp 37) (.tmp 39) rfl hs (.slice oA o.length ocap) o l rfl HN1.out.o LA lc rfl HL1.out HLN.out (by omega) hbr1 ?_; intro v' w4 ho4 hg4 hat4; have HN4 := Lib.hid (HN1.out.addO hg4 ho4 hat4); clear ho4 hg4 hat4)
        go_roundg (es.length - (k + 1))
        case rel => exact ⟨k + 1, o ++ l, i, by omega, by go_num, Nat.le_refl _, Lib.hid ⟨by rw [HNS.out.1]; rfl, by rw [HNS.out.2]; simp⟩, HN4⟩
        case measure => omega
      · go_upto_region 8 with fail
        rw [← hW1]
        clear hW1
        go_wp2_with (at_builtin; refine wpList_append_lines (w := W1) rfl (.tmp 29) (.tmp 31) rfl hs (.slice iA i.length icap) i l rfl HN1.out.i LA lc rfl HL1.out HLN.out (by omega) hbr1 ?_; intro v' w4 ho4 hg4 hat4; have HN4 := Lib.hid ((HN1.out.turn.addO hg4 ho4 hat4).turn); clear ho4 hg4 hat4)
        go_roundg (es.length - (k + 1))
        case rel => exact ⟨k + 1, o, i ++ l, by omega, by go_num, Nat.le_refl _, Lib.hid ⟨by rw [HNS.out.1]; simp, by rw [HNS.out.2]; rfl⟩, HN4⟩
        case measure => omega
    · obtain rfl : k = es.length := by omega
      rw [List.take_length] at HT
      obtain ⟨h1, h2⟩ := HT.out
      subst h1 h2
      rw [HHS.out] at HN
      go_wp2_with fail
      go_ret3
      exact ⟨oA, ocap, iA, icap, rfl, HN.out⟩
end Go.Proofs.Ytigghcmbdnidnaa.S

namespace Go.Proofs.Ytigghcmbdnidnaa.S
open Go.RowKit
open T
open V (grown_of IntsIn numCells numCells_snoc ints_own drawn_below)
open I (alloc1 own_at own_below)
open N (Ln)

abbrev lnV (x : Ln) : Value := .agg #[.string ⟨x.1.toArray⟩, .bool x.2]
theorem ln_eql (w : World) (x y : Ln) : (binOp .eql 59 (lnV x) (lnV y)).run Try.prog w = .ok (.bool (decide (x = y))) w := by
  have u3 := Try.underlying9
  have u4 := Try.underlying4
  have hS : Try.prog.underlying 59 = some (.struct (Try.prog.fieldsOf 59)) := by kernel_rfl
  have hp : Try.prog.stoodInHeld 59 = false := by kernel_rfl
  have z3 : Try.prog.cellsOf 9 = 1 := by kernel_rfl
  simp only [lnV]
  rw [run_eql_struct, show (10000 : Nat) = 9999 + 1 from rfl, run_equalIn_agg w 9999 59 _ _ hS hp]
  simp only [Program.fieldsOf, Try.underlying59]
  go_simp
  obtain ⟨a, b⟩ := x
  obtain ⟨c, d⟩ := y
  by_cases h1 : a = c <;> by_cases h2 : b = d <;> simp [h1, h2]
theorem ln_neq (w : World) (x y : Ln) : (binOp .neq 59 (lnV x) (lnV y)).run Try.prog w = .ok (.bool (!decide (x = y))) w := by
  have h := ln_eql w x y
  simp only [binOp, Sem.run_bind] at h ⊢
  cases hr : (Op.equal 59 (lnV x) (lnV y)).run Try.prog w with
  | ok v w' =>
    rw [hr] at h
    simp only [Result.andThen_ok, Sem.run_pure, Result.ok.injEq, Value.bool.injEq] at h
    obtain ⟨rfl, rfl⟩ := h
    simp only [Result.andThen_ok, Sem.run_pure]
  | _ => rw [hr] at h; simp at h
theorem take_eq_succ {xs ys : List Ln} {k : Nat} (h1 : k < xs.length) (h2 : k < ys.length) (h : xs.take k = ys.take k) (he : xs[k] = ys[k]) : xs.take (k + 1) = ys.take (k + 1) := by
  rw [List.take_succ_eq_append_getElem h1, List.take_succ_eq_append_getElem h2, h, he]
theorem ne_of_at {xs ys : List Ln} {k : Nat} (h1 : k < xs.length) (h2 : k < ys.length) (he : xs[k] ≠ ys[k]) : xs ≠ ys := fun e => by
  subst e; exact he rfl

set_option maxHeartbeats 1000000 in
set_option maxRecDepth 100000 in
theorem rsame_gen (A B : Option Addr) (c c' : Nat) (xs ys : List Ln) (w : World) (h1 : xs.length ≤ maxLen) (h2 : ys.length ≤ maxLen) (hA : LinesIn w A xs) (hB : LinesIn w B ys) :
    Calls Try.prog 13 #[.slice A xs.length c, .slice B ys.length c'] w fun e w' => e = .returned (.bool (decide (xs = ys))) ∧ Below w.heap.size w w' := by
  unfold maxLen at h1 h2
  have HA := Lib.hid hA
  have HB := Lib.hid hB
  clear hA hB
  by_cases hl : xs.length = ys.length
  · have hne : ((xs.length : Int) != (ys.length : Int)) = false := by simp [hl]
    have HL := Lib.hid hl
    clear hl
    go_enter Try.func13, Try.ntmps13
    go_wp2_with fail
    go_loopg [5] xs.length (fun n i wr => ∃ k : Nat, k ≤ xs.length ∧ i = .int .i64 k ∧ xs.length - k ≤ n ∧ Hid (xs.take k = ys.take k) ∧ ∃ q, wr = w.drewN q)
    case atStart => exact ⟨0, Nat.zero_le _, rfl, by omega, Lib.hid rfl, 0, rfl⟩
    case round =>
      obtain ⟨k, hk, rfl, hn, HT, q, rfl⟩ := hrel
      by_cases hlt : k < xs.length
      · have hlt2 : k < ys.length := by have := HL.out; omega
        obtain ⟨bk, off, hAe, hbk, hL⟩ := HA.out (by omega)
        obtain ⟨bk', off', hAe', hbk', hL'⟩ := HB.out (by omega)
        subst hAe hAe'
        obtain ⟨c0, c1⟩ := hL k hlt
        obtain ⟨d0, d1⟩ := hL' k hlt2
        have h0k : (0 : Int) ≤ (k : Int) := Int.natCast_nonneg _
        have h1k : (k : Int) < (xs.length : Int) := by omega
        have h2k : (k : Int) < (ys.length : Int) := by omega
        have HTK := Lib.hid (take_eq_succ hlt hlt2 HT.out)
        have HNE := Lib.hid (ne_of_at hlt hlt2)
        have hq0 := fun W => ln_neq W xs[k] ys[k]
        clear hL hL'
        by_cases he : xs[k] = ys[k]
        · have HTE := Lib.hid (HTK.out he)
          rw [decide_eq_true he] at hq0
          simp only [lnV] at hq0
          clear he HNE HTK
          generalize xs[k].2 = b at *
          generalize xs[k].1 = t at *
          generalize ys[k].2 = b' at *
          generalize ys[k].1 = t' at *
          have hq : ∀ W, (binOp .neq 59 (.agg #[.string ⟨t.toArray⟩, .bool b]) (.agg #[.string ⟨t'.toArray⟩, .bool b'])).run Try.prog W = .ok (.bool false) W := hq0
          clear hq0
          go_wp2_with fail
          go_quiet (fail)
          clear hq
          go_wp2_with fail
          go_roundg (xs.length - (k + 1))
          case measure => omega
          case rel => exact ⟨k + 1, by omega, by go_num, Nat.le_refl _, HTE, _, rfl⟩
        · have HTE := Lib.hid (HNE.out he)
          rw [decide_eq_false he] at hq0
          simp only [lnV] at hq0
          clear he HNE HTK
          generalize xs[k].2 = b at *
          generalize xs[k].1 = t at *
          generalize ys[k].2 = b' at *
          generalize ys[k].1 = t' at *
          have hq : ∀ W, (binOp .neq 59 (.agg #[.string ⟨t.toArray⟩, .bool b]) (.agg #[.string ⟨t'.toArray⟩, .bool b'])).run Try.prog W = .ok (.bool true) W := hq0
          clear hq0
          go_wp2_with fail
          go_quiet (fail)
          clear hq
          have hd := decide_eq_false HTE.out
          go_wp2_with fail
          go_ret
          exact ⟨by rw [hd]; rfl, below_drewN (below_drewN (Below.refl _ _) q) _⟩
      · obtain rfl : k = xs.length := by omega
        have hT := HT.out
        rw [List.take_length, HL.out, List.take_length] at hT
        have hd := decide_eq_true hT
        clear hT HT
        go_wp2_with fail
        go_ret
        exact ⟨by rw [hd]; rfl, below_drewN (Below.refl _ _) q⟩
  · have hne : ((xs.length : Int) != (ys.length : Int)) = true := by simp [bne]; omega
    have hd := decide_eq_false (fun e : xs = ys => hl (by rw [e]))
    clear hl
    go_enter Try.func13, Try.ntmps13
    go_wp2_with fail
    go_ret
    exact ⟨by rw [hd]; rfl, Below.refl _ _⟩

set_option maxHeartbeats 1000000 in
set_option maxRecDepth 100000 in
theorem equal_gen (A B : Option Addr) (c c' : Nat) (xs ys : List Ln) (w : World) (h1 : xs.length ≤ maxLen) (h2 : ys.length ≤ maxLen) (hA : LinesIn w A xs) (hB : LinesIn w B ys) :
    Calls Try.prog 63 #[.slice A xs.length c, .slice B ys.length c'] w fun e w' => e = .returned (.bool (decide (xs = ys))) ∧ Below w.heap.size w w' := by
  unfold maxLen at h1 h2
  have HA := Lib.hid hA
  have HB := Lib.hid hB
  clear hA hB
  by_cases hl : xs.length = ys.length
  · have hne : ((xs.length : Int) != (ys.length : Int)) = false := by simp [hl]
    have HL := Lib.hid hl
    clear hl
    go_enter Try.func63, Try.ntmps63
    go_wp2_with fail
    go_loopg [13] xs.length (fun n i wr => ∃ k : Nat, k ≤ xs.length ∧ i = .int .i64 k ∧ xs.length - k ≤ n ∧ Hid (xs.take k = ys.take k) ∧ ∃ q, wr = w.drewN q)
    case atStart => exact ⟨0, Nat.zero_le _, rfl, by omega, Lib.hid rfl, 0, rfl⟩
    case round =>
      obtain ⟨k, hk, rfl, hn, HT, q, rfl⟩ := hrel
      by_cases hlt : k < xs.length
      · have hlt2 : k < ys.length := by have := HL.out; omega
        obtain ⟨bk, off, hAe, hbk, hL⟩ := HA.out (by omega)
        obtain ⟨bk', off', hAe', hbk', hL'⟩ := HB.out (by omega)
        subst hAe hAe'
        obtain ⟨c0, c1⟩ := hL k hlt
        obtain ⟨d0, d1⟩ := hL' k hlt2
        have h0k : (0 : Int) ≤ (k : Int) := Int.natCast_nonneg _
        have h1k : (k : Int) < (xs.length : Int) := by omega
        have h2k : (k : Int) < (ys.length : Int) := by omega
        have HTK := Lib.hid (take_eq_succ hlt hlt2 HT.out)
        have HNE := Lib.hid (ne_of_at hlt hlt2)
        have hq0 := fun W => ln_neq W xs[k] ys[k]
        clear hL hL'
        by_cases he : xs[k] = ys[k]
        · have HTE := Lib.hid (HTK.out he)
          rw [decide_eq_true he] at hq0
          simp only [lnV] at hq0
          clear he HNE HTK
          generalize xs[k].2 = b at *
          generalize xs[k].1 = t at *
          generalize ys[k].2 = b' at *
          generalize ys[k].1 = t' at *
          have hq : ∀ W, (binOp .neq 59 (.agg #[.string ⟨t.toArray⟩, .bool b]) (.agg #[.string ⟨t'.toArray⟩, .bool b'])).run Try.prog W = .ok (.bool false) W := hq0
          clear hq0
          go_wp2_with fail
          go_quiet (fail)
          clear hq
          go_wp2_with fail
          go_roundg (xs.length - (k + 1))
          case measure => omega
          case rel => exact ⟨k + 1, by omega, by go_num, Nat.le_refl _, HTE, _, rfl⟩
        · have HTE := Lib.hid (HNE.out he)
          rw [decide_eq_false he] at hq0
          simp only [lnV] at hq0
          clear he HNE HTK
          generalize xs[k].2 = b at *
          generalize xs[k].1 = t at *
          generalize ys[k].2 = b' at *
          generalize ys[k].1 = t' at *
          have hq : ∀ W, (binOp .neq 59 (.agg #[.string ⟨t.toArray⟩, .bool b]) (.agg #[.string ⟨t'.toArray⟩, .bool b'])).run Try.prog W = .ok (.bool true) W := hq0
          clear hq0
          go_wp2_with fail
          go_quiet (fail)
          clear hq
          have hd := decide_eq_false HTE.out
          go_wp2_with fail
          go_ret
          exact ⟨by rw [hd]; rfl, below_drewN (below_drewN (Below.refl _ _) q) _⟩
      · obtain rfl : k = xs.length := by omega
        have hT := HT.out
        rw [List.take_length, HL.out, List.take_length] at hT
        have hd := decide_eq_true hT
        clear hT HT
        go_wp2_with fail
        go_ret
        exact ⟨by rw [hd]; rfl, below_drewN (Below.refl _ _) q⟩
  · have hne : ((xs.length : Int) != (ys.length : Int)) = true := by simp [bne]; omega
    have hd := decide_eq_false (fun e : xs = ys => hl (by rw [e]))
    clear hl
    go_enter Try.func63, Try.ntmps63
    go_wp2_with fail
    go_ret
    exact ⟨by rw [hd]; rfl, Below.refl _ _⟩
end Go.Proofs.Ytigghcmbdnidnaa.S

namespace Go.Proofs.Ytigghcmbdnidnaa.S
open Go.RowKit
open T
open V (grown_of IntsIn numCells numCells_snoc ints_own drawn_below)
open I (alloc1 own_at own_below)
open N (Ln)

/-- A text and an error. -/
def ApEnd (w : World) (r : List Ln) (e0 : Int) (e : Ending) (w' : World) : Prop :=
  ∃ A cap, e = .returned (.tuple #[.slice A r.length cap, .int .i64 e0]) ∧ LinesIn w' A r ∧ Below w.heap.size w w'
def apl (es : List Ed) (a : List Ln) : List Ln × Int := if ck es = 0 then (if sd 3 es = a then (sd 2 es, 0) else ([], 8)) else ([], ck es)
theorem Sd.lo {w0 w : World} {base n cap : Nat} {vi : Value} {A : Option Addr} {o i : List Ln} (h : Sd w0 w base (.slice A n cap) vi o i) (hn : n = o.length) : LinesIn w A o := by
  subst hn; exact own_lines h.o
/-- What stands in an edit's cells. -/
structure Raw where
  d : Int
  A : Option Addr
  n : Nat
  c : Nat
def rawCells (rs : List Raw) : List Value := rs.flatMap fun r => [.int .i64 r.d, .slice r.A r.n r.c]
theorem rawCells_len (rs : List Raw) : (rawCells rs).length = rs.length * 2 := by
  induction rs with
  | nil => rfl
  | cons r q ih =>
    have : rawCells (r :: q) = [.int .i64 r.d, .slice r.A r.n r.c] ++ rawCells q := rfl
    rw [this, List.length_append, ih]; simp; omega
theorem rawCells_app (a b : List Raw) : rawCells (a ++ b) = rawCells a ++ rawCells b := by simp [rawCells]
theorem rawCells_at : ∀ (rs : List Raw) (j : Nat) (h : j < rs.length), (rawCells rs)[j * 2]? = some (.int .i64 rs[j].d) ∧ (rawCells rs)[j * 2 + 1]? = some (.slice rs[j].A rs[j].n rs[j].c)
  | r :: rs, 0, _ => ⟨rfl, rfl⟩
  | r :: rs, j + 1, h => by
    have := rawCells_at rs j (by simpa using h)
    rw [show (j + 1) * 2 = j * 2 + 2 by omega, show j * 2 + 2 + 1 = j * 2 + 1 + 2 by omega]
    exact this
theorem rawCells_one (rs : List Raw) : ∀ u ∈ rawCells rs, u.oneCell' = true := by
  intro u hu
  simp only [rawCells, List.mem_flatMap] at hu
  obtain ⟨x, _, hu⟩ := hu
  simp at hu
  rcases hu with rfl | rfl <;> rfl
theorem rawCells_set (x : Int) : ∀ (rs : List Raw) (j : Nat) (h : j < rs.length), (rawCells rs).set (j * 2) (.int .i64 x) = rawCells (rs.set j ⟨x, rs[j].A, rs[j].n, rs[j].c⟩)
  | r :: rs, 0, _ => rfl
  | r :: rs, j + 1, h => by
    have := rawCells_set x rs j (by simpa using h)
    rw [show (j + 1) * 2 = j * 2 + 2 by omega]
    show Value.int .i64 r.d :: Value.slice r.A r.n r.c :: (rawCells rs).set (j * 2) (.int .i64 x) = _
    rw [this]
    rfl
/-- The cells of an edit. -/
structure RawOk (b : Nat) (w : World) (r : Raw) (e : Ed) : Prop where
  d : r.d = e.1
  n : r.n = e.2.length
  l : LinesIn w r.A e.2
  c : e.2.length ≤ r.c
  z : r.A = none → r.c = 0
  b : ∀ p, r.A = some p → b ≤ p.block
theorem RawOk.below {b : Nat} {w w' : World} {r : Raw} {e : Ed} (h : RawOk b w r e) (hb : Below w.heap.size w w') : RawOk b w' r e := ⟨h.d, h.n, h.l.below hb, h.c, h.z, h.b⟩
/-- The cells of a script. -/
def RawsOk (b : Nat) (w : World) (rs : List Raw) (es : List Ed) : Prop := rs.length = es.length ∧ ∀ j (h : j < rs.length) (h' : j < es.length), RawOk b w rs[j] es[j]
theorem RawsOk.below {b : Nat} {w w' : World} {rs : List Raw} {es : List Ed} (h : RawsOk b w rs es) (hb : Below w.heap.size w w') : RawsOk b w' rs es := ⟨h.1, fun j h1 h2 => (h.2 j h1 h2).below hb⟩
theorem choose_lt {α : Type} [Inhabited α] {p : Nat → α → Prop} : ∀ {n : Nat}, (∀ i, i < n → ∃ x, p i x) → ∃ l : List α, l.length = n ∧ ∀ i (h : i < l.length), p i l[i]
  | 0, _ => ⟨[], rfl, fun i h => by simp at h⟩
  | n + 1, H => by
    obtain ⟨l, hl, hp⟩ := choose_lt (n := n) (fun i hi => H i (by omega))
    obtain ⟨x, hx⟩ := H n (by omega)
    refine ⟨l ++ [x], by simp [hl], fun i h => ?_⟩
    by_cases hi : i < l.length
    · rw [List.getElem_append_left hi]; exact hp i hi
    · obtain rfl : i = l.length := by rw [List.length_append] at h; simp at h; omega
      rw [List.getElem_append_right (Nat.le_refl _)]
      simp only [Nat.sub_self, List.getElem_cons_zero]
      rw [hl]; exact hx
instance : Inhabited Raw := ⟨⟨0, none, 0, 0⟩⟩
theorem eds_raws {b : Nat} {w : World} {A : Option Addr} {es : List Ed} (h : EdsIn b w A es) : ∃ rs : List Raw, RawsOk b w rs es ∧ (0 < es.length → ∃ bk off, A = some ⟨bk, off, none⟩ ∧ b ≤ bk ∧ bk < w.heap.size ∧ ∀ j u, (rawCells rs)[j]? = some u → w.cell? ⟨bk, off + j, none⟩ = some u) := by
  by_cases hp : 0 < es.length
  · obtain ⟨bk, off, hA, h1, h2, h3⟩ := h hp
    obtain ⟨rs, hl, hr⟩ := choose_lt (n := es.length) (p := fun j (r : Raw) => w.cell? ⟨bk, off + j * 2, none⟩ = some (.int .i64 r.d) ∧ w.cell? ⟨bk, off + j * 2 + 1, none⟩ = some (.slice r.A r.n r.c) ∧ ∀ h' : j < es.length, RawOk b w r es[j]) (fun j hj => by
      obtain ⟨LA, lc, g0, g1, g2, g3, g4, g5⟩ := h3 j hj
      exact ⟨⟨es[j].1, LA, es[j].2.length, lc⟩, g0, g1, fun _ => ⟨rfl, rfl, g2, g3, g4, g5⟩⟩)
    refine ⟨rs, ⟨hl, fun j h1 h2 => (hr j h1).2.2 h2⟩, fun _ => ⟨bk, off, hA, h1, h2, fun j u hu => ?_⟩⟩
    have hj : j < rs.length * 2 := by rw [← rawCells_len]; exact (List.getElem?_eq_some_iff.1 hu).1
    have hq : j / 2 < rs.length := by omega
    obtain ⟨q0, q1⟩ := rawCells_at rs (j / 2) hq
    obtain ⟨c0, c1, -⟩ := hr (j / 2) hq
    have hd : j = j / 2 * 2 + j % 2 := by omega
    have hm : j % 2 < 2 := Nat.mod_lt _ (by omega)
    have key : ∀ r, j % 2 = r → j = j / 2 * 2 + r := fun r hr => by omega
    match hr : j % 2, hm with
    | 0, _ => rw [key 0 hr, Nat.add_zero] at hu ⊢; rw [q0] at hu; rw [c0]; exact hu
    | 1, _ => rw [key 1 hr] at hu ⊢; rw [q1] at hu; rw [← Nat.add_assoc, c1]; exact hu
  · obtain rfl : es = [] := List.length_eq_zero_iff.1 (by omega)
    exact ⟨[], ⟨rfl, fun j h => by simp at h⟩, fun h => absurd h hp⟩
theorem raws_eds {b base : Nat} {w : World} {A : Option Addr} {cap : Nat} {rs : List Raw} {es : List Ed} (h : w.ownsRow base 54 2 (.slice A es.length cap) es.length (rawCells rs)) (hr : RawsOk b w rs es) (hb : b ≤ base) : EdsIn b w A es := fun hp => by
  obtain ⟨g, rfl, h1, h2, h3⟩ := own_at h hp
  refine ⟨g, 0, rfl, by omega, h2, fun j hj => ?_⟩
  have hj' : j < rs.length := by rw [hr.1]; exact hj
  obtain ⟨q0, q1⟩ := rawCells_at rs j hj'
  have ho := hr.2 j hj' hj
  rw [Nat.zero_add]
  exact ⟨rs[j].A, rs[j].c, by rw [← ho.d]; exact h3 _ _ q0, by rw [← ho.n]; exact h3 _ _ q1, ho.l, ho.c, ho.z, ho.b⟩
/-- A copy of a script. -/
def ClEnd (b : Nat) (w : World) (es : List Ed) (e : Ending) (w' : World) : Prop :=
  ∃ A cap rs, e = .returned (.slice A es.length cap) ∧ w'.ownsRow w.heap.size 54 2 (.slice A es.length cap) es.length (rawCells rs) ∧ RawsOk b w rs es ∧ Below w.heap.size w w'

set_option maxRecDepth 100000 in
set_option maxHeartbeats 4000000 in
theorem clone_any (A : Option Addr) (c b : Nat) (es : List Ed) (w : World) (hE : EdsIn b w A es) (hl : es.length ≤ 1000000) :
    Calls Try.prog 48 #[.slice A es.length c] w (ClEnd b w es) := by
  obtain ⟨i0, hi0, hz0, hz1, hz2⟩ := info_parts infoEdit
  obtain ⟨rs, hr, hc⟩ := eds_raws hE
  have HR := Lib.hid hr
  have HC := Lib.hid hc
  clear hr hc hE
  cases A with
  | none =>
    have hq := fun (w : World) (n c : Nat) => Lib.run_eql_slice_nil (P := Try.prog) w 40 54 none n c 0 0 Try.underlying40
    have hln : es = [] := by
      rcases Nat.eq_zero_or_pos es.length with h0 | hp
      · exact List.length_eq_zero_iff.1 h0
      · obtain ⟨_, _, h0, _⟩ := HC.out hp; cases h0
    subst hln
    go_enter Try.func48, Try.ntmps48
    go_wp2_with fail
    go_ret
    exact ⟨none, 0, [], rfl, World.ownsRow_nil _ _ _ _, ⟨rfl, fun j h => by simp at h⟩, Below.refl _ _⟩
  | some ad =>
    have HLR : Hid (rs.length = es.length) := Lib.hid HR.out.1
    have hq := fun (w : World) (n c : Nat) => Lib.run_eql_slice_nil (P := Try.prog) w 40 54 (some ad) n c 0 0 Try.underlying40
    obtain ⟨n, hn⟩ : ∃ n, n = es.length := ⟨_, rfl⟩
    have HN := Lib.hid hn
    rw [← hn] at hl ⊢
    clear hn
    go_enter Try.func48, Try.ntmps48
    go_upto_region 3 with fail
    have HOW : Hid ((w.alloc (.cells #[] 54)).ownsRow w.heap.size 54 2 (.slice (some ⟨w.heap.size, 0, none⟩) 0 0) 0 []) := Lib.hid (by simpa using World.ownsRow_made (size := 2) (e := 54) w #[] 0 (Nat.le_refl _) (by unfold maxLen; omega) rfl)
    have HLL : Hid ((rawCells rs).length = n * 2) := Lib.hid (by rw [rawCells_len, HLR.out, HN.out])
    have HNW : Hid (∀ j u, (rawCells rs)[j]? = some u → (w.alloc (.cells #[] 54)).cell? (ad.add j) = some u) := Lib.hid (fun j u hu => by
      have hj : j < rs.length * 2 := by rw [← rawCells_len]; exact (List.getElem?_eq_some_iff.1 hu).1
      obtain ⟨bk, off, hA, _, hbk, hcc⟩ := HC.out (by have := HLR.out; omega)
      obtain rfl := Option.some.inj hA
      rw [show (⟨bk, off, none⟩ : Addr).add j = ⟨bk, off + j, none⟩ by simp [Addr.add]]
      exact ((alloc1 w _).cell (p := ⟨bk, off + j, none⟩) hbk).trans (hcc j u hu))
    have H1C := Lib.hid (rawCells_one rs)
    go_wp2_with (at_builtin; refine wpList_append_own_at _ rfl (.tmp 5) (.tmp 6) 40 rfl w.heap.size 54 i0 _ 2 32 Try.underlying40 hi0 hz0 hz1 hz2 rfl (by decide) (.slice (some ⟨w.heap.size, 0, none⟩) 0 0) 0 [] rfl HOW.out ad n c (rawCells rs) rfl HLL.out HNW.out H1C.out (by unfold maxLen; omega) (by omega) (by simp) ?_; intro v' w4 ho4 hg4 _ hat4; rw [Nat.zero_add, List.nil_append] at ho4; have HO4 := Lib.hid ho4; have HB4 : Hid (Below w.heap.size w w4) := Lib.hid ((alloc1 w _).grown hg4 (by simp) (fun q e => by simp [Value.ownBlock] at e; omega)); clear ho4 hg4 hat4)
    go_ret
    obtain ⟨VA, vcap, rfl, -, -⟩ := own_form HO4.out
    exact ⟨VA, vcap, rs, by rw [HN.out]; rfl, by rw [← HN.out]; exact HO4.out, HR.out, HB4.out⟩
end Go.Proofs.Ytigghcmbdnidnaa.S
