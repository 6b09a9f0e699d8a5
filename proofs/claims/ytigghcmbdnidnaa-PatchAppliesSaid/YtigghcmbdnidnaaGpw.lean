/-
  The reference's rows in memory while it lays a script, with where their blocks begin; what lay comes to.
  What the reference's Normal comes to.
-/
import Derived.Test.YtigghcmbdnidnaaGpj
namespace Go.Proofs.Ytigghcmbdnidnaa.S2
set_option linter.unusedVariables false
set_option linter.unusedSimpArgs false
open Go.RowKit
open S
open T
open V (grown_of IntsIn numCells numCells_snoc ints_own drawn_below)
open I (alloc1 own_at own_below)
open N (Ln)

/-- A script that is laid, and three rows of lines: what of each other's memory is apart. -/
structure Rq (w0 w : World) (base : Nat) (vo vk vg vm : Value) (rs : List Raw) (es : List Ed) (k g m : List Ln) : Prop where
  o : w.ownsRow base 54 2 vo rs.length (rawCells rs)
  k : w.ownsRow base 59 2 vk k.length (lineCells k)
  g : w.ownsRow base 59 2 vg g.length (lineCells g)
  m : w.ownsRow base 59 2 vm m.length (lineCells m)
  kg : Apart vk vg
  km : Apart vk vm
  gm : Apart vg vm
  r : RawsOk base w rs es
  f : ∀ r ∈ rs, ∀ p, r.A = some p → p.block < w.heap.size ∧ vo.ownBlock ≠ some p.block ∧ vk.ownBlock ≠ some p.block ∧ vg.ownBlock ≠ some p.block ∧ vm.ownBlock ≠ some p.block
  b : Below w0.heap.size w0 w
  hb : w0.heap.size ≤ base
  hs : base ≤ w.heap.size
theorem Rq.below {w0 w w' : World} {base : Nat} {vo vk vg vm : Value} {rs : List Raw} {es : List Ed} {k g m : List Ln} (h : Rq w0 w base vo vk vg vm rs es k g m) (hb : Below w.heap.size w w') : Rq w0 w' base vo vk vg vm rs es k g m :=
  ⟨own_below h.o hb, own_below h.k hb, own_below h.g hb, own_below h.m hb, h.kg, h.km, h.gm, h.r.below hb, fun r hr p hp => ⟨Nat.lt_of_lt_of_le (h.f r hr p hp).1 hb.size, (h.f r hr p hp).2⟩, h.b.trans (hb.mono h.b.size), h.hb, Nat.le_trans h.hs hb.size⟩
theorem Rq.rot {w0 w : World} {base : Nat} {vo vk vg vm : Value} {rs : List Raw} {es : List Ed} {k g m : List Ln} (h : Rq w0 w base vo vk vg vm rs es k g m) : Rq w0 w base vo vg vm vk rs es g m k :=
  ⟨h.o, h.g, h.m, h.k, h.gm, h.kg.symm, h.km.symm, h.r, fun r hr p hp => ⟨(h.f r hr p hp).1, (h.f r hr p hp).2.1, (h.f r hr p hp).2.2.2.1, (h.f r hr p hp).2.2.2.2, (h.f r hr p hp).2.2.1⟩, h.b, h.hb, h.hs⟩
theorem Rq.addK {w0 w w' : World} {base : Nat} {vo vk vg vm vk' : Value} {rs : List Raw} {es : List Ed} {k g m l : List Ln} (h : Rq w0 w base vo vk vg vm rs es k g m) (hg : w.grownBy w' vk.ownBlock) (ho : w'.ownsRow base 59 2 vk' (k ++ l).length (lineCells (k ++ l)))
    (hn : vk'.ownBlock = vk.ownBlock ∨ vk'.ownBlock = some w.heap.size) : Rq w0 w' base vo vk' vg vm rs es (k ++ l) g m := by
  have hn' : vk'.ownBlock = vk.ownBlock ∨ ∃ g, vk'.ownBlock = some g ∧ w.heap.size ≤ g := by
    rcases hn with e | e
    · exact .inl e
    · exact .inr ⟨_, e, Nat.le_refl _⟩
  exact ⟨own_grown h.o h.k (by decide) hg, ho, own_keep h.g hg h.kg, own_keep h.m hg h.km, Apart.new h.kg hn' (S.own_lt h.g), Apart.new h.km hn' (S.own_lt h.m), h.gm,
    h.r.kept hg (fun r hr p hp e => (h.f r hr p hp).2.2.1 e.symm), fun r hr p hp => by
      obtain ⟨f0, f1, f2, f3, f4⟩ := h.f r hr p hp
      exact ⟨Nat.lt_of_lt_of_le f0 hg.size, f1, ne_new hn' f2 f0, f3, f4⟩, h.b.grown hg h.b.size (fun q e => Nat.le_trans h.hb (own_base h.k q e)), h.hb, Nat.le_trans h.hs hg.size⟩
theorem Rq.addO {w0 w w1 w' : World} {base : Nat} {vo vk vg vm vo' : Value} {rs : List Raw} {es : List Ed} {k g m : List Ln} {r : Raw} {e : Ed} (h : Rq w0 w base vo vk vg vm rs es k g m) (hb : Below w.heap.size w w1) (hg : w1.grownBy w' vo.ownBlock) (ho : w'.ownsRow base 54 2 vo' (rs ++ [r]).length (rawCells (rs ++ [r])))
    (hn : vo'.ownBlock = vo.ownBlock ∨ vo'.ownBlock = some w1.heap.size) (hr : RawOk base w1 r e) (hf : ∀ p, r.A = some p → w.heap.size ≤ p.block ∧ p.block < w1.heap.size) : Rq w0 w' base vo' vk vg vm (rs ++ [r]) (es ++ [e]) k g m := by
  have h1 := h.below hb
  have hn' : vo'.ownBlock = vo.ownBlock ∨ ∃ g, vo'.ownBlock = some g ∧ w1.heap.size ≤ g := by
    rcases hn with e | e
    · exact .inl e
    · exact .inr ⟨_, e, Nat.le_refl _⟩
  have hlt : ∀ {v : Value} {e' : TypeId} {size n : Nat} {xs : List Value}, w.ownsRow base e' size v n xs → ∀ p, r.A = some p → v.ownBlock ≠ some p.block := fun hv p hp e => by
    have := S.own_lt hv _ e
    have := (hf p hp).1
    omega
  refine ⟨ho, own_grown h1.k h1.o (by decide) hg, own_grown h1.g h1.o (by decide) hg, own_grown h1.m h1.o (by decide) hg, h.kg, h.km, h.gm, ?_, ?_, h1.b.grown hg h1.b.size (fun q e => Nat.le_trans h.hb (own_base h.o q e)), h.hb, Nat.le_trans h1.hs hg.size⟩
  · refine (h1.r.snoc hr).kept hg (fun r' hr' p hp e => ?_)
    rcases List.mem_append.1 hr' with hr' | hr'
    · exact (h1.f r' hr' p hp).2.1 e.symm
    · obtain rfl := List.mem_singleton.1 hr'
      exact hlt h.o p hp e.symm
  · intro r' hr' p hp
    rcases List.mem_append.1 hr' with hr' | hr'
    · obtain ⟨f0, f1, f2, f3, f4⟩ := h1.f r' hr' p hp
      exact ⟨Nat.lt_of_lt_of_le f0 hg.size, ne_new hn' f1 f0, f2, f3, f4⟩
    · obtain rfl := List.mem_singleton.1 hr'
      have f0 := (hf p hp).2
      exact ⟨Nat.lt_of_lt_of_le f0 hg.size, ne_new hn' (hlt h.o p hp) f0, hlt h.k p hp, hlt h.g p hp, hlt h.m p hp⟩
theorem Rq.clear {w0 w : World} {base : Nat} {vo vk vg vm : Value} {rs : List Raw} {es : List Ed} {k g m : List Ln} (h : Rq w0 w base vo vk vg vm rs es k g m) : Rq w0 w base vo (.slice none 0 0) (.slice none 0 0) (.slice none 0 0) rs es [] [] [] :=
  ⟨h.o, World.ownsRow_nil _ _ _ _, World.ownsRow_nil _ _ _ _, World.ownsRow_nil _ _ _ _, Apart.nil _, Apart.nil _, Apart.nil _, h.r, fun r hr p hp => ⟨(h.f r hr p hp).1, (h.f r hr p hp).2.1, (fun e => by cases e), (fun e => by cases e), (fun e => by cases e)⟩, h.b, h.hb, h.hs⟩
/-- lay: one edit more, if it has lines. -/
def LyEnd (w0 : World) (base : Nat) (vk vg vm : Value) (es : List Ed) (k g m : List Ln) (e : Ending) (w' : World) : Prop :=
  ∃ A cap rs, e = .returned (.slice A rs.length cap) ∧ Rq w0 w' base (.slice A rs.length cap) vk vg vm rs es k g m

set_option maxRecDepth 100000 in
set_option maxHeartbeats 4000000 in
theorem lay_any (w0 w : World) (base : Nat) (oA : Option Addr) (ocap : Nat) (vk vg vm : Value) (rs : List Raw) (es : List Ed) (k g m : List Ln) (d : Int) (LA : Option Addr) (lc : Nat) (l : List Ln) (h : Rq w0 w base (.slice oA rs.length ocap) vk vg vm rs es k g m)
    (hL : LinesIn w LA l) (hn : LA = none → lc = 0) (hl : l.length ≤ 1000) (hr : rs.length ≤ 10000) :
    Calls Try.prog 43 #[.slice oA rs.length ocap, .int .i64 d, .slice LA l.length lc] w (LyEnd w0 base vk vg vm (es ++ lyE d l) k g m) := by
  obtain ⟨i0, hi0, hz0, hz1, hz2⟩ := info_parts infoEdit
  have H := Lib.hid h
  have HL := Lib.hid hL
  have HN := Lib.hid hn
  clear h hL hn
  by_cases h0 : l.length = 0
  · have hb0 : ((l.length : Int) == 0) = true := by simp [h0]
    have HLE : Hid (lyE d l = []) := Lib.hid (by unfold lyE; rw [if_pos (List.length_eq_zero_iff.1 h0)])
    rw [HLE.out, List.append_nil]
    obtain ⟨n, hn⟩ : ∃ n, n = l.length := ⟨_, rfl⟩
    rw [← hn] at h0 hb0 ⊢
    clear hn
    subst h0
    clear hb0
    go_enter Try.func43, Try.ntmps43
    go_wp2_with fail
    go_ret
    exact ⟨oA, ocap, rs, rfl, H.out⟩
  · have hb0 : ((l.length : Int) == 0) = false := by simpa using h0
    have hp : 0 < l.length := by omega
    have HLE : Hid (lyE d l = [(d, l)]) := Lib.hid (by unfold lyE; rw [if_neg (fun e => h0 (by rw [e]; rfl))])
    rw [HLE.out]
    have HB0 := Lib.hid (alloc1 w (.cells #[] 59))
    have HO0 : Hid ((w.alloc (.cells #[] 59)).ownsRow w.heap.size 59 2 (.slice (some ⟨w.heap.size, 0, none⟩) 0 0) ([] : List Ln).length (lineCells [])) := Lib.hid (World.ownsRow_made (size := 2) (e := 59) w #[] 0 (Nat.le_refl _) (by unfold maxLen; omega) rfl)
    have HL0 := Lib.hid (HL.out.below HB0.out)
    have hs0 : w.heap.size ≤ (w.alloc (.cells #[] 59)).heap.size := HB0.out.size
    have HE : Hid (∀ (w1 w4 : World) (NA : Option Addr) (nc : Nat) (v' : Value), w1.ownsRow w.heap.size 59 2 (.slice NA l.length nc) l.length (lineCells l) → Below w.heap.size w w1 → w4.ownsRow base 54 2 v' (rs.length + 1) (rawCells rs ++ [.int .i64 d, .slice NA l.length nc]) → (w1.alloc (.cells #[.int .i64 d, .slice NA l.length nc] 54)).grownBy w4 (Value.slice oA rs.length ocap).ownBlock → (v'.ownBlock = (Value.slice oA rs.length ocap).ownBlock ∨ v'.ownBlock = some (w1.alloc (.cells #[.int .i64 d, .slice NA l.length nc] 54)).heap.size) → LyEnd w0 base vk vg vm (es ++ [(d, l)]) k g m (.returned v') w4) := Lib.hid (fun w1 w4 NA nc v' ho1 hb1 ho4 hg4 hat4 => by
      have hb2 : Below w.heap.size w (w1.alloc (.cells #[.int .i64 d, .slice NA l.length nc] 54)) := hb1.trans ((alloc1 w1 _).mono hb1.size)
      have ho4' : w4.ownsRow base 54 2 v' (rs ++ [Raw.mk d NA l.length nc]).length (rawCells (rs ++ [Raw.mk d NA l.length nc])) := by rw [List.length_append, rawCells_app]; exact ho4
      obtain ⟨_, _, he1, hnc, -⟩ := own_form ho1
      injection he1 with _ _ he1
      subst he1
      have hro : RawOk base (w1.alloc (.cells #[.int .i64 d, .slice NA l.length nc] 54)) (Raw.mk d NA l.length nc) (d, l) := ⟨rfl, rfl, (own_lines ho1).below (alloc1 w1 _), hnc, (fun e => by simp only at e; subst e; exact own_none ho1), (fun p hp => Nat.le_trans H.out.hs (own_addr ho1 p hp).2)⟩
      have hq := H.out.addO hb2 hg4 ho4' hat4 hro (fun p hp => by
        obtain ⟨q1, q2⟩ := own_addr ho1 p hp
        exact ⟨q2, Nat.lt_of_lt_of_le (S.own_lt ho1 _ q1) (alloc1 w1 _).size⟩)
      obtain ⟨VA, vc, rfl, -, -⟩ := own_form ho4'
      exact ⟨VA, vc, _, rfl, hq⟩)
    clear h0
    go_enter Try.func43, Try.ntmps43
    go_upto_region 3 with fail
    go_wp2_with ((first | (at_builtin; refine wpList_append_lines (w := w.alloc (.cells #[] 59)) rfl (.tmp 13) (.tmp 14) rfl w.heap.size (.slice (some ⟨w.heap.size, 0, none⟩) 0 0) [] l rfl HO0.out LA lc rfl HL0.out HN.out (by simp; omega) hs0 ?_; intro v1 w1 ho1 hg1 hat1; rw [List.nil_append] at ho1; obtain ⟨NA, nc, rfl, -, -⟩ := own_form ho1; have HO1 := Lib.hid ho1; have HB1 : Hid (Below w.heap.size w w1) := Lib.hid (HB0.out.grown hg1 hs0 (fun q e => own_base HO0.out q e)); have HV1 := Lib.hid (own_below H.out.o HB1.out); have hbr1 : base ≤ w1.heap.size := Nat.le_trans H.out.hs HB1.out.size; clear ho1 hg1 hat1) | (at_builtin; refine wpList_append_own_at _ rfl (.tmp 11) (.tmp 17) 40 rfl base 54 i0 _ 2 32 Try.underlying40 hi0 hz0 hz1 hz2 rfl (by decide) (.slice oA rs.length ocap) rs.length (rawCells rs) rfl (HV1.out.alloc _) ⟨w1.heap.size, 0, none⟩ 1 1 [.int .i64 d, .slice NA l.length nc] rfl rfl (World.news_of_block (heap_alloc_new w1 _)) (by intro u hu; simp at hu; rcases hu with rfl | rfl <;> rfl) (by simp only [maxLen]; omega) (by omega) (by simp; omega) ?_; intro v' w4 hown4 hg4 _ hat4; have HX4 := Lib.hid (HE.out w1 w4 NA nc v' HO1.out HB1.out hown4 hg4 hat4); clear hown4 hg4 hat4)))
    go_ret
    exact HX4.out
end Go.Proofs.Ytigghcmbdnidnaa.S2

namespace Go.Proofs.Ytigghcmbdnidnaa.S2
set_option linter.unusedVariables false
set_option linter.unusedSimpArgs false
open Go.RowKit
open S
open T
open V (grown_of IntsIn numCells numCells_snoc ints_own drawn_below)
open I (alloc1 own_at own_below)
open N (Ln)

theorem Rq.start (w0 w1 : World) (hb : Below w0.heap.size w0 w1) : Rq w0 ((((w1.alloc (.cells #[] 54)).alloc (.cells #[] 59)).alloc (.cells #[] 59)).alloc (.cells #[] 59)) w1.heap.size (.slice (some ⟨w1.heap.size, 0, none⟩) 0 0) (.slice (some ⟨w1.heap.size + 1, 0, none⟩) 0 0) (.slice (some ⟨w1.heap.size + 1 + 1, 0, none⟩) 0 0) (.slice (some ⟨w1.heap.size + 1 + 1 + 1, 0, none⟩) 0 0) [] [] [] [] [] := by
  have made : ∀ (W : World) (t : TypeId) (n : Nat), W.heap.size = n → w1.heap.size ≤ n → (W.alloc (.cells #[] t)).ownsRow w1.heap.size t 2 (.slice (some ⟨n, 0, none⟩) 0 0) 0 [] := fun W t n hn hw => by
    subst hn
    exact World.ownsRow_made (size := 2) (e := t) W #[] 0 hw (by unfold maxLen; omega) rfl
  have ap : ∀ a b : Nat, a ≠ b → Apart (.slice (some ⟨a, 0, none⟩) 0 0) (.slice (some ⟨b, 0, none⟩) 0 0) := fun a b h k hk hk' => by
    simp only [Value.ownBlock, Option.some.injEq] at hk hk'
    omega
  refine ⟨(((made w1 54 _ rfl (Nat.le_refl _)).alloc _).alloc _).alloc _, ((made _ 59 _ (by simp) (by omega)).alloc _).alloc _, (made _ 59 _ (by simp) (by omega)).alloc _, made _ 59 _ (by simp) (by omega), ap _ _ (by omega), ap _ _ (by omega), ap _ _ (by omega), RawsOk.nil _ _, fun r hr => by simp at hr, ?_, hb.size, by simp; omega⟩
  exact (((hb.alloc hb.size _).alloc (by have := hb.size; simp; omega) _).alloc (by have := hb.size; simp; omega) _).alloc (by have := hb.size; simp; omega) _
/-- A script and an error, in blocks of its own. -/
def RlEnd (w : World) (r : List Ed) (e0 : Int) (e : Ending) (w' : World) : Prop :=
  ∃ A cap, e = .returned (.tuple #[.slice A r.length cap, .int .i64 e0]) ∧ EdsIn w.heap.size w' A r ∧ r.length ≤ cap ∧ (A = none → cap = 0) ∧ Below w.heap.size w w'
set_option maxRecDepth 100000 in
set_option maxHeartbeats 8000000 in
theorem rnormal_good (A : Option Addr) (c b : Nat) (es : List Ed) (w : World) (hE : EdsIn b w A es) (hok : EdsOk es) (hc : ck es = 0) :
    Calls Try.prog 32 #[.slice A es.length c] w (RlEnd w (norm es) 0) := by
  have HC := Lib.hid (rcheck_any A c b es w hE hok)
  rw [hc] at HC
  obtain ⟨hel, htl, hd3⟩ := ck_ok hc
  have HE := Lib.hid hE
  have HD3 := Lib.hid hd3
  clear hE hok hc hd3
  go_enter Try.func32, Try.ntmps32
  go_wp2_with fail
  with_reducible refine (HC.out).mono ?_
  rintro e w1 ⟨rfl, hb1⟩
  have HQ0 := Lib.hid (Rq.start w w1 hb1)
  obtain ⟨base, hbase⟩ : ∃ n, n = w1.heap.size := ⟨_, rfl⟩
  clear hb1 HC
  go_wp2_with fail
  rw [← hbase] at HQ0 ⊢
  clear hbase
  go_loopg [5, 6, 7, 8, 9] es.length (fun m vo vk vg vm iv wr => ∃ (k : Nat) (rs : List Raw) (t : Rst), k ≤ es.length ∧ iv = .int .i64 k ∧ es.length - k ≤ m ∧ Hid (t = rnsts (es.take k)) ∧ Hid (Rq w wr base vo vk vg vm rs t.r t.k t.g t.m))
  case atStart => exact ⟨0, [], ⟨[], [], [], []⟩, Nat.zero_le _, rfl, by omega, Lib.hid rfl, HQ0⟩
  case round =>
    clear HQ0
    obtain ⟨k, rs, ⟨rr, rk, rg, rm⟩, hk, rfl, hmm, HT, HQ⟩ := hrel
    simp only at HQ
    obtain ⟨oA, ocap, rfl, -, -⟩ := own_form HQ.out.o
    obtain ⟨kA, kcap, rfl, -, -⟩ := own_form HQ.out.k
    obtain ⟨gA, gcap, rfl, -, -⟩ := own_form HQ.out.g
    obtain ⟨mA, mcap, rfl, -, -⟩ := own_form HQ.out.m
    have hrl : rs.length ≤ 3 * 800 ∧ rk.length + rg.length + rm.length ≤ 800 := by
      have h1 := rnsts_len (es.take k)
      have h2 := tl_le es k
      have h3 := rr_len (es.take k)
      have h4 : (es.take k).length ≤ es.length := by rw [List.length_take]; omega
      have h5 := HQ.out.r.1
      rw [← HT.out] at h1 h3
      simp only [rlen] at h1 h3
      omega
    have hrl1 := hrl.1
    have hrl2 := hrl.2
    clear hrl
    by_cases hlt : k < es.length
    · obtain ⟨bk, off, LA, lc, hAe, hcc, g2, g4⟩ := edit_in HE.out hlt
      subst hAe
      obtain ⟨c0, c1⟩ := hcc wr HQ.out.b
      have HCC := Lib.hid hcc
      have HL0 := Lib.hid g2
      have HLN := Lib.hid g4
      have hel4 : es[k].2.length ≤ 800 := by have := tl_take hlt; have := tl_le es (k + 1); omega
      have HNS : Hid (rnsts (es.take (k + 1)) = rnst ⟨rr, rk, rg, rm⟩ es[k]) := Lib.hid (by rw [rnsts_take hlt, ← HT.out])
      have H3 := HD3.out _ (List.getElem_mem hlt)
      generalize es[k] = e at *
      obtain ⟨d, l⟩ := e
      simp only at c0 c1 hel4 H3 HCC HL0 HLN
      have HL1 := Lib.hid (HL0.out.below HQ.out.b)
      have hbr := HQ.out.hs
      have h0k : (0 : Int) ≤ (k : Int) := by omega
      have hki : (k : Int) < (es.length : Int) := by omega
      clear hcc g2 g4 HT
      rcases H3 with rfl | rfl | rfl
      · by_cases hl0 : l.length = 0
        · have hz : decide (0 < l.length) = false := decide_eq_false (by omega)
          have hz2 : ¬ 0 < l.length := by omega
          have HNT : Hid (rnst ⟨rr, rk, rg, rm⟩ (1, l) = ⟨rr, rk ++ l, rg, rm⟩) := Lib.hid (by unfold rnst; rw [if_neg (by simp only; omega)]; rfl)
          obtain ⟨n, hn⟩ : ∃ n, n = l.length := ⟨_, rfl⟩
          have HLE := Lib.hid hn
          clear hn hl0
          go_wp2_with (at_builtin; refine wpList_append_lines (w := wr) rfl (.tmp 62) (.tmp 67) rfl base (.slice kA rk.length kcap) rk l rfl HQ.out.k LA lc rfl HL1.out HLN.out (by omega) hbr ?_; intro v' w4 ho4 hg4 hat4; have HQ4 := Lib.hid (HQ.out.addK hg4 ho4 hat4); clear ho4 hg4 hat4)
          go_roundg (es.length - (k + 1))
          case rel => exact ⟨k + 1, _, _, by omega, by go_num, Nat.le_refl _, Lib.hid (by rw [HNS.out, HNT.out]), HQ4⟩
          case measure => omega
        · by_cases hgm : rg.length + rm.length = 0
          · have hz : decide (0 < l.length) = true := decide_eq_true (by omega)
            have hz2 : 0 < l.length := by omega
            have hg0 : rg.length = 0 := by omega
            have hm0 : rm.length = 0 := by omega
            have HNT : Hid (rnst ⟨rr, rk, rg, rm⟩ (1, l) = ⟨rr, rk ++ l, rg, rm⟩) := Lib.hid (by unfold rnst; rw [if_neg (by simp only; omega)]; rfl)
            obtain rfl := List.length_eq_zero_iff.1 hg0
            obtain rfl := List.length_eq_zero_iff.1 hm0
            clear hl0 hgm hg0 hm0
            go_wp2_with (at_builtin; refine wpList_append_lines (w := wr) rfl (.tmp 62) (.tmp 67) rfl base (.slice kA rk.length kcap) rk l rfl HQ.out.k LA lc rfl HL1.out HLN.out (by omega) hbr ?_; intro v' w4 ho4 hg4 hat4; have HQ4 := Lib.hid (HQ.out.addK hg4 ho4 hat4); clear ho4 hg4 hat4)
            go_roundg (es.length - (k + 1))
            case rel => exact ⟨k + 1, _, _, by omega, by go_num, Nat.le_refl _, Lib.hid (by rw [HNS.out, HNT.out]), HQ4⟩
            case measure => omega
          · have hz : decide (0 < l.length) = true := decide_eq_true (by omega)
            have hz2 : 0 < l.length := by omega
            have hs : 0 < rg.length + rm.length := by omega
            have hs1 : decide (0 < rg.length + rm.length) = true := decide_eq_true hs
            have hs2 : (0 : Int) < (rg.length : Int) + (rm.length : Int) := by omega
            have hs3 : decide ((0 : Int) < (rg.length : Int) + (rm.length : Int)) = true := decide_eq_true hs2
            have HNT : Hid (rnst ⟨rr, rk, rg, rm⟩ (1, l) = ⟨rall ⟨rr, rk, rg, rm⟩, l, [], []⟩) := Lib.hid (by unfold rnst; rw [if_pos ⟨rfl, hz2, hs⟩]; simp [rput])
            clear hl0 hgm
            go_wp2_with fail
            with_reducible refine (lay_any w wr base oA ocap (.slice kA rk.length kcap) (.slice gA rg.length gcap) (.slice mA rm.length mcap) rs rr rk rg rm 1 kA kcap rk HQ.out (own_lines HQ.out.k) (fun e => by subst e; exact own_none HQ.out.k) (by omega) (by omega)).mono ?_
            rintro e w2 ⟨pA, pcap, rs2, rfl, hq2⟩
            have HQ2 := Lib.hid hq2
            have hl2 : rs2.length ≤ 2401 := by have h1 := hq2.r.1; rw [List.length_append, ← HQ.out.r.1] at h1; have := ly_len 1 rk; omega
            clear hq2
            go_wp2_with fail
            with_reducible refine (lay_any w w2 base pA pcap (.slice kA rk.length kcap) (.slice gA rg.length gcap) (.slice mA rm.length mcap) rs2 (rr ++ lyE 1 rk) rk rg rm 2 gA gcap rg HQ2.out (own_lines HQ2.out.g) (fun e => by subst e; exact own_none HQ2.out.g) (by omega) (by omega)).mono ?_
            rintro e w3 ⟨qA, qcap, rs3, rfl, hq3⟩
            have HQ3 := Lib.hid hq3
            have hl3 : rs3.length ≤ 2402 := by have h1 := hq3.r.1; rw [List.length_append, ← HQ2.out.r.1] at h1; have := ly_len 2 rg; omega
            clear hq3
            go_wp2_with fail
            with_reducible refine (lay_any w w3 base qA qcap (.slice kA rk.length kcap) (.slice gA rg.length gcap) (.slice mA rm.length mcap) rs3 ((rr ++ lyE 1 rk) ++ lyE 2 rg) rk rg rm 3 mA mcap rm HQ3.out (own_lines HQ3.out.m) (fun e => by subst e; exact own_none HQ3.out.m) (by omega) (by omega)).mono ?_
            rintro e w4 ⟨sA, scap, rs4, rfl, hq4⟩
            have HQ4 := Lib.hid hq4
            clear hq4
            clear c0 c1
            obtain ⟨c0, c1⟩ := HCC.out w4 HQ4.out.b
            have HQ5 := Lib.hid HQ4.out.clear
            have HL5 := Lib.hid (HL0.out.below HQ4.out.b)
            have hbr5 := HQ5.out.hs
            go_wp2_with (at_builtin; refine wpList_append_lines (w := w4) rfl (.tmp 62) (.tmp 67) rfl base (.slice none 0 0) [] l rfl HQ5.out.k LA lc rfl HL5.out HLN.out (by simp; omega) hbr5 ?_; intro v' w5 ho5 hg5 hat5; have HQ6 := Lib.hid (HQ5.out.addK hg5 ho5 hat5); clear ho5 hg5 hat5)
            go_roundg (es.length - (k + 1))
            case rel => exact ⟨k + 1, _, _, by omega, by go_num, Nat.le_refl _, Lib.hid (by rw [HNS.out, HNT.out]), HQ6⟩
            case measure => omega
      · have HNT : Hid (rnst ⟨rr, rk, rg, rm⟩ (2, l) = ⟨rr, rk, rg ++ l, rm⟩) := Lib.hid (by unfold rnst; rw [if_neg (by simp)]; rfl)
        go_wp2_with (at_builtin; refine wpList_append_lines (w := wr) rfl (.tmp 71) (.tmp 76) rfl base (.slice gA rg.length gcap) rg l rfl HQ.out.g LA lc rfl HL1.out HLN.out (by omega) hbr ?_; intro v' w4 ho4 hg4 hat4; have HQ4 := Lib.hid (((HQ.out.rot.addK hg4 ho4 hat4).rot).rot); clear ho4 hg4 hat4)
        go_roundg (es.length - (k + 1))
        case rel => exact ⟨k + 1, _, _, by omega, by go_num, Nat.le_refl _, Lib.hid (by rw [HNS.out, HNT.out]), HQ4⟩
        case measure => omega
      · have HNT : Hid (rnst ⟨rr, rk, rg, rm⟩ (3, l) = ⟨rr, rk, rg, rm ++ l⟩) := Lib.hid (by unfold rnst; rw [if_neg (by simp)]; rfl)
        go_wp2_with (at_builtin; refine wpList_append_lines (w := wr) rfl (.tmp 80) (.tmp 85) rfl base (.slice mA rm.length mcap) rm l rfl HQ.out.m LA lc rfl HL1.out HLN.out (by omega) hbr ?_; intro v' w4 ho4 hg4 hat4; have HQ4 := Lib.hid ((HQ.out.rot.rot.addK hg4 ho4 hat4).rot); clear ho4 hg4 hat4)
        go_roundg (es.length - (k + 1))
        case rel => exact ⟨k + 1, _, _, by omega, by go_num, Nat.le_refl _, Lib.hid (by rw [HNS.out, HNT.out]), HQ4⟩
        case measure => omega
    · obtain rfl : k = es.length := by omega
      rw [List.take_length] at HT
      go_wp2_with fail
      with_reducible refine (lay_any w wr base oA ocap (.slice kA rk.length kcap) (.slice gA rg.length gcap) (.slice mA rm.length mcap) rs rr rk rg rm 1 kA kcap rk HQ.out (own_lines HQ.out.k) (fun e => by subst e; exact own_none HQ.out.k) (by omega) (by omega)).mono ?_
      rintro e w2 ⟨pA, pcap, rs2, rfl, hq2⟩
      have HQ2 := Lib.hid hq2
      have hl2 : rs2.length ≤ 2401 := by have h1 := hq2.r.1; rw [List.length_append, ← HQ.out.r.1] at h1; have := ly_len 1 rk; omega
      clear hq2
      go_wp2_with fail
      with_reducible refine (lay_any w w2 base pA pcap (.slice kA rk.length kcap) (.slice gA rg.length gcap) (.slice mA rm.length mcap) rs2 (rr ++ lyE 1 rk) rk rg rm 2 gA gcap rg HQ2.out (own_lines HQ2.out.g) (fun e => by subst e; exact own_none HQ2.out.g) (by omega) (by omega)).mono ?_
      rintro e w3 ⟨qA, qcap, rs3, rfl, hq3⟩
      have HQ3 := Lib.hid hq3
      have hl3 : rs3.length ≤ 2402 := by have h1 := hq3.r.1; rw [List.length_append, ← HQ2.out.r.1] at h1; have := ly_len 2 rg; omega
      clear hq3
      go_wp2_with fail
      with_reducible refine (lay_any w w3 base qA qcap (.slice kA rk.length kcap) (.slice gA rg.length gcap) (.slice mA rm.length mcap) rs3 ((rr ++ lyE 1 rk) ++ lyE 2 rg) rk rg rm 3 mA mcap rm HQ3.out (own_lines HQ3.out.m) (fun e => by subst e; exact own_none HQ3.out.m) (by omega) (by omega)).mono ?_
      rintro e w4 ⟨sA, scap, rs4, rfl, hq4⟩
      have HQ4 := Lib.hid hq4
      clear hq4
      have HRA : Hid (((rr ++ lyE 1 rk) ++ lyE 2 rg) ++ lyE 3 rm = norm es) := Lib.hid (by
        have := rall_norm HD3.out
        rw [← HT.out] at this
        exact this)
      have HR : Hid (EdsIn w.heap.size w4 sA (norm es) ∧ (norm es).length ≤ scap ∧ (sA = none → scap = 0)) := Lib.hid (by
        have ho := HQ4.out.o
        have hr := HQ4.out.r
        have hl := hr.1
        rw [HRA.out] at hr hl
        rw [hl] at ho
        obtain ⟨_, _, he1, hnc, -⟩ := own_form ho
        injection he1 with _ _ he1
        subst he1
        exact ⟨(raws_eds ho hr (Nat.le_refl _)).low HQ4.out.hb, hnc, fun e => by subst e; exact own_none ho⟩)
      have HRL : Hid (rs4.length = (norm es).length) := Lib.hid (by rw [← HRA.out]; exact HQ4.out.r.1)
      have HB4 := Lib.hid HQ4.out.b
      go_wp2_with fail
      go_ret2
      exact ⟨sA, scap, by rw [HRL.out]; rfl, HR.out.1, HR.out.2.1, HR.out.2.2, HB4.out⟩
set_option maxRecDepth 100000 in
set_option maxHeartbeats 8000000 in
theorem rinvert_any (A : Option Addr) (c b : Nat) (es : List Ed) (w : World) (hE : EdsIn b w A es) (hok : EdsOk es) (hck : ck es = 0) :
    Calls Try.prog 37 #[.slice A es.length c] w (RlEnd w (inv es) 0) := by
  obtain ⟨i0, hi0, hz0, hz1, hz2⟩ := info_parts infoEdit
  obtain ⟨rs, hr, hc⟩ := eds_raws (hE.low (Nat.zero_le b))
  have HR := Lib.hid hr
  have HC := Lib.hid hc
  have HIV : Hid (norm (es.map iv) = inv es ∧ ck (es.map iv) = 0) := Lib.hid ⟨by unfold inv; rw [if_pos hck], (ck_iv es).trans hck⟩
  have hsz : es.length * 32 ≤ 140737488351232 := by have := (ck_ok hck).1; omega
  have HOI := Lib.hid hok.iv
  have hrl : rs.length = es.length := hr.1
  obtain ⟨n, hn⟩ : ∃ n, n = es.length := ⟨_, rfl⟩
  have HN := Lib.hid (And.intro hn (hrl.trans hn.symm))
  rw [← hn] at hsz ⊢
  obtain ⟨W0, hW0⟩ : ∃ W : World, W = w.alloc (.cells #[] 54) := ⟨_, rfl⟩
  have HB0 := Lib.hid (show Below w.heap.size w W0 by rw [hW0]; exact alloc1 _ _)
  have HO0 : Hid (W0.ownsRow w.heap.size 54 2 (.slice (some ⟨w.heap.size, 0, none⟩) 0 0) 0 (rawCells ((rs.take 0).map riv))) := Lib.hid (by rw [hW0]; exact World.ownsRow_made (size := 2) (e := 54) w #[] 0 (Nat.le_refl _) (by unfold maxLen; omega) rfl)
  clear hr hc hn hrl hE hok hck
  go_enter Try.func37, Try.ntmps37
  go_wp2_with fail
  rw [← hW0]
  clear hW0
  go_loopg [4, 5] n (fun m ov iv wr => ∃ (k : Nat), k ≤ n ∧ iv = .int .i64 k ∧ n - k ≤ m ∧ Hid (wr.ownsRow w.heap.size 54 2 ov k (rawCells ((rs.take k).map riv))) ∧ Hid (Below w.heap.size w wr))
  case atStart => exact ⟨0, Nat.zero_le _, rfl, by omega, HO0, HB0⟩
  case round =>
    clear HO0 HB0
    obtain ⟨k, hk, rfl, hmm, HO, HB⟩ := hrel
    obtain ⟨oA, ocap, rfl, -, -⟩ := own_form HO.out
    by_cases hlt : k < n
    · have hkr : k < rs.length := by have := HN.out.2; omega
      obtain ⟨bk, off, hA, -, hbk, hcc⟩ := HC.out (by have := HN.out.1; omega)
      subst hA
      obtain ⟨q0, q1⟩ := rawCells_at rs k hkr
      have c0 : wr.cell? ⟨bk, off + k * 2, none⟩ = some (.int .i64 rs[k].d) := (HB.out.cell (p := ⟨bk, off + k * 2, none⟩) hbk).trans (hcc _ _ q0)
      have c1 : wr.cell? ⟨bk, off + k * 2 + 1, none⟩ = some (.slice rs[k].A rs[k].n rs[k].c) := (HB.out.cell (p := ⟨bk, off + k * 2 + 1, none⟩) hbk).trans (by have := hcc _ _ q1; rw [← Nat.add_assoc] at this; exact this)
      have cA : ∀ o, (wr.alloc o).cell? ⟨bk, off + k * 2, none⟩ = some (.int .i64 rs[k].d) := fun o => ((alloc1 wr o).cell (p := ⟨bk, off + k * 2, none⟩) (Nat.lt_of_lt_of_le hbk HB.out.size)).trans c0
      have HTK := Lib.hid (take_riv hkr)
      have h0k : (0 : Int) ≤ (k : Int) := by omega
      have hki : (k : Int) < (n : Int) := by omega
      have hbr := HB.out.size
      clear hcc q0 q1
      generalize rs[k] = r at *
      obtain ⟨d, rA, rn, rc⟩ := r
      simp only at c0 c1 cA HTK
      by_cases h2 : d = 2
      · subst h2
        obtain ⟨W1, hW1⟩ : ∃ W : World, W = wr.alloc (.cells #[.int .i64 3, .slice rA rn rc] 54) := ⟨_, rfl⟩
        have hX := heap_alloc_new wr (.cells #[.int .i64 3, .slice rA rn rc] 54)
        rw [← hW1] at hX
        have hb1 : Below wr.heap.size wr W1 := by rw [hW1]; exact alloc1 _ _
        have HB1 := Lib.hid (HB.out.trans (hb1.mono hbr))
        have HO1 := Lib.hid (own_below HO.out hb1)
        have hs1 : w.heap.size ≤ W1.heap.size := HB1.out.size
        have x0 := L.blk_cell hX 0
        have x1 := L.blk_cell hX 1
        simp only [List.getElem?_toArray, List.getElem?_cons_zero, List.getElem?_cons_succ] at x0 x1
        have HTQ : Hid (rawCells ((rs.take k).map riv) ++ [.int .i64 3, .slice rA rn rc] = rawCells ((rs.take (k + 1)).map riv)) := Lib.hid HTK.out
        clear hb1 hX HTK
        go_upto_region 10 with fail
        rw [← hW1]
        obtain ⟨xb, hxb⟩ : ∃ xb, xb = wr.heap.size := ⟨_, rfl⟩
        rw [← hxb] at x0 x1 ⊢
        clear hW1 hxb c0 c1 cA
        go_wp2_with (at_builtin; refine wpList_append_own _ rfl (.tmp 32) (.tmp 34) 40 rfl w.heap.size 54 i0 _ 2 32 Try.underlying40 hi0 hz0 hz1 hz2 rfl (by decide) _ k (rawCells ((rs.take k).map riv)) rfl (HO1.out.alloc _) ⟨W1.heap.size, 0, none⟩ 1 1 [.int .i64 3, .slice rA rn rc] rfl rfl (World.news_of_block (heap_alloc_new W1 _)) (by intro u hu; simp at hu; rcases hu with rfl | rfl <;> rfl) (by simp only [maxLen]; omega) (by omega) (by simp; omega) ?_; intro v' w4 hown4 hg4 _; rw [HTQ.out] at hown4; have HO4 := Lib.hid hown4; have HB4 : Hid (Below w.heap.size w w4) := Lib.hid ((HB1.out.alloc hs1 _).grown hg4 (by simp; omega) (fun q eq => own_base HO1.out q eq)); clear hown4 hg4)
        go_roundg (n - (k + 1))
        case rel => exact ⟨k + 1, by omega, by go_num, Nat.le_refl _, HO4, HB4⟩
        case measure => omega
      · have d2 : (d == 2) = false := beq_eq_false_iff_ne.2 h2
        by_cases h3 : d = 3
        · subst h3
          obtain ⟨W1, hW1⟩ : ∃ W : World, W = wr.alloc (.cells #[.int .i64 2, .slice rA rn rc] 54) := ⟨_, rfl⟩
          have hX := heap_alloc_new wr (.cells #[.int .i64 2, .slice rA rn rc] 54)
          rw [← hW1] at hX
          have hb1 : Below wr.heap.size wr W1 := by rw [hW1]; exact alloc1 _ _
          have HB1 := Lib.hid (HB.out.trans (hb1.mono hbr))
          have HO1 := Lib.hid (own_below HO.out hb1)
          have hs1 : w.heap.size ≤ W1.heap.size := HB1.out.size
          have x0 := L.blk_cell hX 0
          have x1 := L.blk_cell hX 1
          simp only [List.getElem?_toArray, List.getElem?_cons_zero, List.getElem?_cons_succ] at x0 x1
          have HTQ : Hid (rawCells ((rs.take k).map riv) ++ [.int .i64 2, .slice rA rn rc] = rawCells ((rs.take (k + 1)).map riv)) := Lib.hid HTK.out
          clear hb1 hX HTK
          go_upto_region 10 with fail
          rw [← hW1]
          obtain ⟨xb, hxb⟩ : ∃ xb, xb = wr.heap.size := ⟨_, rfl⟩
          rw [← hxb] at x0 x1 ⊢
          clear hW1 hxb c0 c1 cA
          go_wp2_with (at_builtin; refine wpList_append_own _ rfl (.tmp 32) (.tmp 34) 40 rfl w.heap.size 54 i0 _ 2 32 Try.underlying40 hi0 hz0 hz1 hz2 rfl (by decide) _ k (rawCells ((rs.take k).map riv)) rfl (HO1.out.alloc _) ⟨W1.heap.size, 0, none⟩ 1 1 [.int .i64 2, .slice rA rn rc] rfl rfl (World.news_of_block (heap_alloc_new W1 _)) (by intro u hu; simp at hu; rcases hu with rfl | rfl <;> rfl) (by simp only [maxLen]; omega) (by omega) (by simp; omega) ?_; intro v' w4 hown4 hg4 _; rw [HTQ.out] at hown4; have HO4 := Lib.hid hown4; have HB4 : Hid (Below w.heap.size w w4) := Lib.hid ((HB1.out.alloc hs1 _).grown hg4 (by simp; omega) (fun q eq => own_base HO1.out q eq)); clear hown4 hg4)
          go_roundg (n - (k + 1))
          case rel => exact ⟨k + 1, by omega, by go_num, Nat.le_refl _, HO4, HB4⟩
          case measure => omega
        · have d3 : (d == 3) = false := beq_eq_false_iff_ne.2 h3
          have HTN : Hid (tn d = d) := Lib.hid (by unfold tn; rw [if_neg h2, if_neg h3])
          rw [HTN.out] at HTK
          clear h2 h3
          obtain ⟨W1, hW1⟩ : ∃ W : World, W = wr.alloc (.cells #[.int .i64 d, .slice rA rn rc] 54) := ⟨_, rfl⟩
          have hX := heap_alloc_new wr (.cells #[.int .i64 d, .slice rA rn rc] 54)
          rw [← hW1] at hX
          have hb1 : Below wr.heap.size wr W1 := by rw [hW1]; exact alloc1 _ _
          have HB1 := Lib.hid (HB.out.trans (hb1.mono hbr))
          have HO1 := Lib.hid (own_below HO.out hb1)
          have hs1 : w.heap.size ≤ W1.heap.size := HB1.out.size
          have x0 := L.blk_cell hX 0
          have x1 := L.blk_cell hX 1
          simp only [List.getElem?_toArray, List.getElem?_cons_zero, List.getElem?_cons_succ] at x0 x1
          have HTQ : Hid (rawCells ((rs.take k).map riv) ++ [.int .i64 d, .slice rA rn rc] = rawCells ((rs.take (k + 1)).map riv)) := Lib.hid HTK.out
          clear hb1 hX HTK
          go_upto_region 10 with fail
          rw [← hW1]
          obtain ⟨xb, hxb⟩ : ∃ xb, xb = wr.heap.size := ⟨_, rfl⟩
          rw [← hxb] at x0 x1 ⊢
          clear hW1 hxb c0 c1 cA
          go_wp2_with (at_builtin; refine wpList_append_own _ rfl (.tmp 32) (.tmp 34) 40 rfl w.heap.size 54 i0 _ 2 32 Try.underlying40 hi0 hz0 hz1 hz2 rfl (by decide) _ k (rawCells ((rs.take k).map riv)) rfl (HO1.out.alloc _) ⟨W1.heap.size, 0, none⟩ 1 1 [.int .i64 d, .slice rA rn rc] rfl rfl (World.news_of_block (heap_alloc_new W1 _)) (by intro u hu; simp at hu; rcases hu with rfl | rfl <;> rfl) (by simp only [maxLen]; omega) (by omega) (by simp; omega) ?_; intro v' w4 hown4 hg4 _; rw [HTQ.out] at hown4; have HO4 := Lib.hid hown4; have HB4 : Hid (Below w.heap.size w w4) := Lib.hid ((HB1.out.alloc hs1 _).grown hg4 (by simp; omega) (fun q eq => own_base HO1.out q eq)); clear hown4 hg4)
          go_roundg (n - (k + 1))
          case rel => exact ⟨k + 1, by omega, by go_num, Nat.le_refl _, HO4, HB4⟩
          case measure => omega
    · obtain rfl : k = n := by omega
      have HEI : Hid (EdsIn 0 wr oA (es.map iv)) := Lib.hid (by
        have ho := HO.out
        have h1 := HN.out.1
        have h2 := HN.out.2
        rw [← h2, List.take_length, HR.out.1, ← List.length_map (f := iv)] at ho
        exact raws_eds ho ((HR.out.below HB.out).iv) (Nat.zero_le _))
      have HNG : Hid (Calls Try.prog 32 #[.slice oA k ocap] wr (RlEnd wr (inv es) 0)) := Lib.hid (by
        have := rnormal_good oA ocap 0 (es.map iv) wr HEI.out HOI.out HIV.out.2
        rw [List.length_map, ← HN.out.1, HIV.out.1] at this
        exact this)
      clear HEI
      go_wp2_with fail
      with_reducible refine (HNG.out).mono ?_
      rintro e w4 ⟨NA, ncap, rfl, hE4, hnc4, hnn4, hb4⟩
      have HNC := Lib.hid (And.intro hnc4 hnn4)
      have HE4 := Lib.hid (hE4.low HB.out.size)
      have HB4 : Hid (Below w.heap.size w w4) := Lib.hid (HB.out.trans (hb4.mono HB.out.size))
      clear hE4 hb4 hnc4 hnn4
      go_wp2_with fail
      go_ret2
      exact ⟨NA, ncap, rfl, HE4.out, HNC.out.1, HNC.out.2, HB4.out⟩

end Go.Proofs.Ytigghcmbdnidnaa.S2
