/-
  The reference's Join; stay, stands and Whole.
  Whole.
  Hunks (plain): the whole text of them, how many, how much they change.
-/
import Derived.Test.YtigghcmbdnidnaaGpn
import Derived.Test.YtigghcmbdnidnaaGpm
namespace Go.Proofs.Ytigghcmbdnidnaa.H
set_option linter.unusedVariables false
set_option linter.unusedSimpArgs false
open Go.RowKit
open T S
open V (grown_of)
open I (alloc1 own_at own_below)
open N (Ln)

/-- Where raw edits stand. -/
def RawAt (w : World) (A : Option Addr) (rs : List Raw) : Prop := 0 < rs.length → ∃ bk off, A = some ⟨bk, off, none⟩ ∧ bk < w.heap.size ∧ ∀ j u, (rawCells rs)[j]? = some u → w.cell? ⟨bk, off + j, none⟩ = some u
theorem RawAt.below {w w' : World} {A : Option Addr} {rs : List Raw} (h : RawAt w A rs) (hb : Below w.heap.size w w') : RawAt w' A rs := fun hp => by
  obtain ⟨bk, off, e, hlt, hI⟩ := h hp
  exact ⟨bk, off, e, Nat.lt_of_lt_of_le hlt hb.size, fun j u hu => (hb.cell (p := ⟨bk, off + j, none⟩) hlt).trans (hI j u hu)⟩
theorem eds_rawAt {b : Nat} {w : World} {A : Option Addr} {es : List Ed} (h : EdsIn b w A es) : ∃ rs : List Raw, RawsOk b w rs es ∧ RawAt w A rs := by
  obtain ⟨rs, h1, h2⟩ := eds_raws h
  refine ⟨rs, h1, fun hp => ?_⟩
  obtain ⟨bk, off, e, _, hlt, hI⟩ := h2 (by rw [← h1.1]; exact hp)
  exact ⟨bk, off, e, hlt, hI⟩
theorem wpList_append_eds {w : World} {ops : Array Oper} {rest : List Oper} {o : Oper} {a : Act} {Q : Exit → Act → World → Prop} (hgd : o.guard = none) (s x : Operand)
    (ho : o.op = .call { callee := .builtin .append, args := #[s, x], argTypes := #[40, 40] })
    (base : Nat) (v : Value) (r0 rs : List Raw) (hs : a.eval s = v) (hown : w.ownsRow base 54 2 v r0.length (rawCells r0))
    (LA : Option Addr) (lc n : Nat) (hx : a.eval x = .slice LA n lc) (hnn : n = rs.length) (hL : RawAt w LA rs) (hn : LA = none → lc = 0) (hsm : r0.length + rs.length ≤ 4000000) (hbase : base ≤ w.heap.size)
    (h : ∀ v' w', w'.ownsRow base 54 2 v' (r0 ++ rs).length (rawCells (r0 ++ rs)) → w.grownBy w' v.ownBlock → wpList Try.prog ops Q rest (a.put o.dst v') w') :
    wpList Try.prog ops Q (o :: rest) a w := by
  obtain ⟨i0, hi0, hz0, hz1, hz2⟩ := info_parts infoEdit
  subst hnn
  have hlen : (rawCells rs).length = rs.length * 2 := rawCells_len rs
  cases LA with
  | none =>
    have hl0 : rs = [] := by
      rcases Nat.eq_zero_or_pos rs.length with h0 | hp
      · exact List.length_eq_zero_iff.1 h0
      · obtain ⟨_, _, h0, _⟩ := hL hp; cases h0
    obtain rfl := hn rfl
    subst hl0
    refine wpList_append_own_none hgd s x _ ho base 54 i0 2 Try.underlying40 hi0 v _ _ hs hown hx (h v w (by simpa using hown) ⟨rfl, rfl, rfl, Nat.le_refl _, fun _ _ _ => rfl⟩)
  | some ad =>
    refine wpList_append_own_at w hgd s x _ ho base 54 i0 _ 2 32 Try.underlying40 hi0 hz0 hz1 hz2 rfl (by decide) v _ _ hs hown ad rs.length lc (rawCells rs) hx hlen (fun j u hu => ?_) (rawCells_one rs) (by unfold maxLen; omega) (by omega) hbase (fun v' w' h1 h2 _ h4 => h v' w' (by rw [List.length_append, rawCells_app]; exact h1) h2)
    have hj : j < rs.length * 2 := by rw [← hlen]; exact (List.getElem?_eq_some_iff.1 hu).1
    obtain ⟨bk, off, e, _, hI⟩ := hL (by omega)
    injection e with e
    subst e
    rw [show (⟨bk, off, none⟩ : Addr).add j = ⟨bk, off + j, none⟩ by simp [Addr.add]]
    exact hI j u hu
/-- Edits that are gathered, whose lines were there before. -/
structure Jr (w0 w : World) (v : Value) (rs : List Raw) (es : List Ed) : Prop where
  own : w.ownsRow w0.heap.size 54 2 v rs.length (rawCells rs)
  r : RawsOk 0 w0 rs es
  b : Below w0.heap.size w0 w
theorem RawsOk.app {b : Nat} {w : World} {rs rs' : List Raw} {es es' : List Ed} (h : RawsOk b w rs es) (h' : RawsOk b w rs' es') : RawsOk b w (rs ++ rs') (es ++ es') := by
  refine ⟨by rw [List.length_append, List.length_append, h.1, h'.1], fun j h1 h2 => ?_⟩
  by_cases hj : j < rs.length
  · have hj' : j < es.length := by rw [← h.1]; exact hj
    rw [List.getElem_append_left hj, List.getElem_append_left hj']
    exact h.2 j hj hj'
  · have hj' : ¬ j < es.length := by rw [← h.1]; exact hj
    rw [List.getElem_append_right (by omega), List.getElem_append_right (by omega)]
    rw [List.length_append] at h1 h2
    have e : j - rs.length = j - es.length := by rw [h.1]
    have := h'.2 (j - rs.length) (by omega) (by rw [e]; omega)
    simp only [e] at this ⊢
    exact this
theorem Jr.below {w0 w w' : World} {v : Value} {rs : List Raw} {es : List Ed} (h : Jr w0 w v rs es) (hb : Below w.heap.size w w') : Jr w0 w' v rs es := ⟨own_below h.own hb, h.r, h.b.trans (hb.mono h.b.size)⟩
theorem Jr.nil (w : World) : Jr w w (.slice none 0 0) [] [] := ⟨World.ownsRow_nil _ _ _ _, ⟨rfl, fun j h => by simp at h⟩, Below.refl _ _⟩
theorem Jr.add {w0 w w1 w2 : World} {v v' : Value} {rs rs' : List Raw} {es es' : List Ed} (h : Jr w0 w v rs es) (hb : Below w.heap.size w w1) (hg : w1.grownBy w2 v.ownBlock) (ho : w2.ownsRow w0.heap.size 54 2 v' (rs ++ rs').length (rawCells (rs ++ rs'))) (hr : RawsOk 0 w0 rs' es') : Jr w0 w2 v' (rs ++ rs') (es ++ es') :=
  ⟨ho, RawsOk.app h.r hr, (h.below hb).b.grown hg (h.below hb).b.size (fun q e => own_base h.own q e)⟩
theorem Jr.read {w0 w : World} {A : Option Addr} {cap : Nat} {rs : List Raw} {es : List Ed} (h : Jr w0 w (.slice A rs.length cap) rs es) : rs.length = es.length ∧ EdsIn 0 w A es := by
  have h1 := h.own
  rw [h.r.1] at h1
  exact ⟨h.r.1, raws_eds h1 (h.r.below h.b) (Nat.zero_le _)⟩
set_option maxRecDepth 100000 in
set_option maxHeartbeats 4000000 in
theorem rjoin_any (A : Option Addr) (c b : Nat) (hs : List Hk) (w : World) (hH : HksIn b w A hs) (hok : HksOk hs) (hj : (join hs).length ≤ 2000000) :
    Calls Try.prog 23 #[.slice A hs.length c] w (JnEnd w (join hs)) := by
  have HH := Lib.hid (hH.low (Nat.zero_le _))
  have hl := hok.len
  unfold maxLen at hl
  obtain ⟨W0, hW0⟩ : ∃ W : World, W = w.alloc (.cells #[] 54) := ⟨_, rfl⟩
  have HJ0 : Hid (Jr w W0 (.slice (some ⟨w.heap.size, 0, none⟩) ([] : List Raw).length 0) [] []) := Lib.hid ⟨by rw [hW0]; exact World.ownsRow_made (size := 2) (e := 54) w #[] 0 (Nat.le_refl _) (by unfold maxLen; omega) rfl, ⟨rfl, fun j h => by simp at h⟩, by rw [hW0]; exact alloc1 _ _⟩
  clear hH hok
  go_enter Try.func23, Try.ntmps23
  go_upto_region 2 with fail
  rw [← hW0]
  obtain ⟨ob, hob⟩ : ∃ ob, ob = w.heap.size := ⟨_, rfl⟩
  rw [← hob] at HJ0 ⊢
  clear hW0 hob
  go_wp2_with fail
  go_loopg [4, 3] hs.length (fun m iv sv wr => ∃ (k : Nat) (SA : Option Addr) (cap : Nat) (rs : List Raw), k ≤ hs.length ∧ iv = .int .i64 k ∧ sv = .slice SA rs.length cap ∧ hs.length - k ≤ m ∧ Hid (Jr w wr (.slice SA rs.length cap) rs (join (hs.take k))))
  case atStart => exact ⟨0, _, _, [], Nat.zero_le _, rfl, rfl, by omega, HJ0⟩
  case round =>
    clear HJ0
    obtain ⟨k, SA, cap, rs, hk, rfl, rfl, hmm, HG⟩ := hrel
    by_cases hlt : k < hs.length
    · obtain ⟨bk, off, EA, ec, hAe, c0, c1, c2, c3, c4, hE, -, hez⟩ := hunk_at HH.out HG.out.b hlt
      subst hAe
      obtain ⟨rs', hr', hat'⟩ := eds_rawAt hE
      have HR := Lib.hid hr'
      have HAT := Lib.hid (hat'.below HG.out.b)
      have HEZ := Lib.hid hez
      have HJT := Lib.hid (join_take hlt)
      have hjl := join_le hs (k + 1)
      rw [HJT.out, List.length_append] at hjl
      have hrl := HG.out.r.1
      have hrl' := hr'.1
      rw [← hrl'] at c4
      have HBW := Lib.hid (show w.heap.size ≤ wr.heap.size from HG.out.b.size)
      have HADD : Hid (∀ v' w2, w2.ownsRow w.heap.size 54 2 v' (rs ++ rs').length (rawCells (rs ++ rs')) → wr.grownBy w2 (Value.slice SA rs.length cap).ownBlock → Jr w w2 v' (rs ++ rs') (join (hs.take (k + 1)))) := Lib.hid (fun v' w2 h1 h2 => by rw [HJT.out]; exact HG.out.add (Below.refl _ _) h2 h1 HR.out)
      have h0k : (0 : Int) ≤ (k : Int) := by omega
      have hki : (k : Int) < (hs.length : Int) := by omega
      have hbd : rs.length + rs'.length ≤ 4000000 := by omega
      clear hE hr' hat' hez c0 c1 c2 c3 hrl hrl' hjl
      go_wp2_with (at_builtin; refine wpList_append_eds (w := wr) rfl (.tmp 12) (.tmp 17) rfl w.heap.size (.slice SA rs.length cap) rs rs' rfl HG.out.own EA ec rs'.length rfl rfl HAT.out HEZ.out hbd HBW.out ?_; intro v' w2 ho2 hg2; have HN := Lib.hid (HADD.out v' w2 ho2 hg2); clear ho2 hg2)
      obtain ⟨VA, vc, rfl, -, -⟩ := own_form HN.out.own
      go_roundg (hs.length - (k + 1))
      case rel => exact ⟨k + 1, VA, vc, rs ++ rs', by omega, by go_num, rfl, Nat.le_refl _, HN⟩
      case measure => omega
    · obtain rfl : k = hs.length := by omega
      rw [List.take_length] at HG
      obtain ⟨h1, h2⟩ := HG.out.read
      have HE := Lib.hid h2
      have HB := Lib.hid HG.out.b
      have HRL := Lib.hid h1
      clear h1 h2
      go_wp2_with fail
      go_ret
      exact ⟨SA, cap, by rw [← HRL.out]; rfl, HE.out, HB.out⟩
/-- A stretch of lines that stay. -/
def StEnd (B : Option Addr) (a : List Ln) (w : World) (l : List Ln) (e : Ending) (w' : World) : Prop :=
  ∃ A, e = .returned (.agg #[.int .i64 1, .slice A l.length l.length]) ∧ (∀ w0, LinesIn w0 B a → LinesIn w0 A l) ∧ (A = none → l.length = 0) ∧ Below w.heap.size w w'
set_option maxRecDepth 100000 in
set_option maxHeartbeats 4000000 in
theorem stay_any (A : Option Addr) (c p q : Nat) (a : List Ln) (w : World) (hL : LinesIn w A a) (hc : a.length ≤ c) (hpq : p ≤ q) (hq : q ≤ a.length) :
    Calls Try.prog 61 #[.slice A a.length c, .int .i64 (p : Int), .int .i64 (q : Int)] w (StEnd A a w ((a.drop p).take (q - p))) := by
  have hlen : ((a.drop p).take (q - p)).length = q - p := by rw [List.length_take, List.length_drop]; omega
  have h0p : (0 : Int) ≤ (p : Int) := by omega
  have hpq' : (p : Int) ≤ (q : Int) := by omega
  have hqn : (q : Int) ≤ (a.length : Int) := by omega
  have hqc : (q : Int) ≤ (c : Int) := by omega
  have HL := Lib.hid hL
  unfold StEnd
  rw [hlen]
  obtain ⟨n, hn⟩ : ∃ n, n = a.length := ⟨_, rfl⟩
  have HN := Lib.hid hn
  rw [← hn] at hc hqn hq ⊢
  have hx0 := heap_alloc_new w (.cells #[.int .i64 0, .slice none 0 0] 54)
  have HB1 := Lib.hid (alloc1 w (.cells #[.int .i64 0, .slice none 0 0] 54))
  clear hL hn
  cases A with
  | none =>
    have h0 : n = 0 := by
      rcases Nat.eq_zero_or_pos n with h | h
      · exact h
      · obtain ⟨_, _, e, _⟩ := HL.out (by rw [← HN.out]; exact h); cases e
    obtain rfl : q = 0 := by omega
    obtain rfl : p = 0 := by omega
    subst h0
    clear hx0
    have hx0 := heap_alloc_new w (.cells #[.int .i64 1, .slice none 0 0] 54)
    have q0 := L.blk_cell hx0 0
    have q1 := L.blk_cell hx0 1
    simp only [List.getElem?_toArray, List.getElem?_cons_zero, List.getElem?_cons_succ] at q0 q1
    have HQ := Lib.hid (And.intro q0 q1)
    clear q0 q1 hx0
    go_enter Try.func61, Try.ntmps61
    go_wp2_with fail
    obtain ⟨q0, q1⟩ := HQ.out
    exact bodyPost_ret (v := .agg #[.int .i64 1, .slice none 0 0]) (by simp [results, Try.results61, go_sem, q0, q1]) rfl ⟨none, rfl, fun _ _ h => absurd h (by simp), (fun _ => by first | rfl | trivial), alloc1 w _⟩
  | some ad =>
    clear hx0
    by_cases hpe : p = q
    · subst hpe
      have hx0 := heap_alloc_new w (.cells #[.int .i64 1, .slice (some ad) 0 0] 54)
      have q0 := L.blk_cell hx0 0
      have q1 := L.blk_cell hx0 1
      simp only [List.getElem?_toArray, List.getElem?_cons_zero, List.getElem?_cons_succ] at q0 q1
      have HQ := Lib.hid (And.intro q0 q1)
      rw [Nat.sub_self]
      clear q0 q1 hx0
      go_enter Try.func61, Try.ntmps61
      go_wp2_with fail
      obtain ⟨q0, q1⟩ := HQ.out
      exact bodyPost_ret (v := .agg #[.int .i64 1, .slice (some ad) 0 0]) (by simp [results, Try.results61, go_sem, q0, q1]) rfl ⟨some ad, rfl, fun _ _ h => absurd h (by simp), (fun e => by cases e), alloc1 w _⟩
    · have hqp : ¬ q = p := fun e => hpe e.symm
      obtain ⟨k, off, he, -, -⟩ := HL.out (by rw [← HN.out]; omega)
      obtain rfl := Option.some.inj he
      have hx0 := heap_alloc_new w (.cells #[.int .i64 1, .slice (some ⟨k, off + p * 2, none⟩) (q - p) (q - p)] 54)
      have q0 := L.blk_cell hx0 0
      have q1 := L.blk_cell hx0 1
      simp only [List.getElem?_toArray, List.getElem?_cons_zero, List.getElem?_cons_succ] at q0 q1
      have HQ := Lib.hid (And.intro q0 q1)
      have HLL : Hid (∀ w0, LinesIn w0 (some ⟨k, off, none⟩) a → LinesIn w0 (some ⟨k, off + p * 2, none⟩) ((a.drop p).take (q - p))) := Lib.hid (fun w0 h => lines_take (lines_drop h p) (q - p))
      clear q0 q1 hx0 hlen he
      go_enter Try.func61, Try.ntmps61
      go_wp2_with fail
      obtain ⟨q0, q1⟩ := HQ.out
      exact bodyPost_ret (v := .agg #[.int .i64 1, .slice (some ⟨k, off + p * 2, none⟩) (q - p) (q - p)]) (by simp [results, Try.results61, go_sem, q0, q1]) rfl ⟨some ⟨k, off + p * 2, none⟩, rfl, HLL.out, (fun e => by cases e), alloc1 w _⟩
set_option maxRecDepth 100000 in
set_option maxHeartbeats 4000000 in
theorem stands_any (EA B : Option Addr) (ec c : Nat) (h : Hk) (a : List Ln) (w : World) (hE : EdsIn 0 w EA h.es) (hok : EdsOk h.es) (hL : LinesIn w B a) (hc : a.length ≤ c) (ha : a.length ≤ 400) (h1 : ok4 h.oa) (h2 : ok4 h.o) (hck : ck h.es = 0) :
    Calls Try.prog 60 #[hkV h.oa h.o h.na h.n EA h.es.length ec, .slice B a.length c] w (BlEnd w (stn a h)) := by
  obtain ⟨oa, o, na, nn, es⟩ := h
  simp only at hE hok h1 h2 hck
  obtain ⟨p, rfl⟩ : ∃ p : Nat, oa = (p : Int) := ⟨oa.toNat, by have := h1.1; omega⟩
  obtain ⟨m, rfl⟩ : ∃ m : Nat, o = (m : Int) := ⟨o.toNat, by have := h2.1; omega⟩
  obtain ⟨h1a, h1b⟩ := h1
  obtain ⟨h2a, h2b⟩ := h2
  have hST : stn a ⟨p, m, na, nn, es⟩ = decide (p + m ≤ a.length ∧ (sides es).1 = (a.drop p).take m) := by
    unfold stn
    simp only [Int.toNat_natCast]
    rw [decide_eq_decide]
    constructor
    · rintro ⟨q1, q2⟩; exact ⟨by omega, q2⟩
    · rintro ⟨q1, q2⟩; exact ⟨by omega, q2⟩
  have hsl := sides_len es
  obtain ⟨W1, hW1⟩ : ∃ W : World, W = w.alloc (hkC p m na nn EA es.length ec) := ⟨_, rfl⟩
  have hX := heap_alloc_new w (hkC p m na nn EA es.length ec)
  rw [← hW1] at hX
  have hb1 : Below w.heap.size w W1 := by rw [hW1]; exact alloc1 _ _
  have HB1 := Lib.hid hb1
  have HX := Lib.hid hX
  have HSD := Lib.hid (sides_read EA ec 0 es W1 (hE.below hb1) hok)
  rw [hck] at HSD
  have HL := Lib.hid hL
  obtain ⟨x0, x1, x2, x3, x4⟩ := hkC_cells hX
  have hw : IntKind.i64.wrap ((p : Int) + (m : Int)) = (p : Int) + (m : Int) := by rw [IntKind.wrap_i64]; omega
  unfold BlEnd hkV
  rw [hST]
  simp only
  clear hX hb1 hE hok hL hck hST
  obtain ⟨n, hn⟩ : ∃ n, n = a.length := ⟨_, rfl⟩
  have HN := Lib.hid hn
  rw [← hn] at hc ha ⊢
  clear hn
  obtain ⟨R, hR⟩ : ∃ R, R = decide (p + m ≤ n ∧ (sides es).1 = (a.drop p).take m) := ⟨_, rfl⟩
  rw [← hR]
  have HR := Lib.hid hR
  clear hR
  go_enter Try.func60, Try.ntmps60
  go_upto_region 1 with fail
  rw [← hW1]
  obtain ⟨xb, hxb⟩ : ∃ xb, xb = w.heap.size := ⟨_, rfl⟩
  rw [← hxb] at x0 x1 x2 x3 x4 HX ⊢
  clear hW1 hxb
  go_wp2_with fail
  with_reducible refine (HSD.out).mono ?_
  rintro e w2 ⟨XA, xc, YA, yc, rfl, hX2, -, hb2⟩
  have HX2 := Lib.hid hX2
  have hx2 := (hb2.block _ (L.blk_lt HX.out)).trans HX.out
  have HB2 := Lib.hid (HB1.out.trans (hb2.mono HB1.out.size))
  clear HSD hX2 hb2 x0 x1 x2 x3 x4
  obtain ⟨x0, x1, x2, x3, x4⟩ := hkC_cells hx2
  clear hx2 HX
  by_cases hle : p + m ≤ n
  · have hd : decide ((p : Int) + (m : Int) ≤ (n : Int)) = true := decide_eq_true (by omega)
    have hpm : (p : Int) ≤ (p : Int) + (m : Int) := by omega
    have hmc : (p : Int) + (m : Int) ≤ (c : Int) := by omega
    have hmn : (p : Int) + (m : Int) ≤ (n : Int) := by omega
    have h0p : (0 : Int) ≤ (p : Int) := by omega
    have hlm : ((a.drop p).take m).length = m := by rw [List.length_take, List.length_drop, ← HN.out]; omega
    have HRES : Hid (R = decide ((sides es).1 = (a.drop p).take m)) := Lib.hid (by rw [HR.out]; simp [hle])
    have HEQ := Lib.hid (fun (A2 : Option Addr) (hA : LinesIn w2 A2 ((a.drop p).take m)) => equal_gen XA A2 xc m (sides es).1 ((a.drop p).take m) w2 (by unfold maxLen; omega) (by unfold maxLen; omega) HX2.out hA)
    rw [hlm, ← HRES.out] at HEQ
    have HL2 := Lib.hid (HL.out.below HB2.out)
    have HLM := Lib.hid hlm
    clear HRES hlm hle HR
    generalize (sides es).1.length = sl at *
    generalize (sides es).2.length = sl2 at *
    cases B with
    | none =>
      have h0 : n = 0 := by
        rcases Nat.eq_zero_or_pos n with h | h
        · exact h
        · obtain ⟨_, _, e, _⟩ := HL.out (by rw [← HN.out]; exact h); cases e
      obtain rfl : p = 0 := by omega
      obtain rfl : m = 0 := by omega
      have HQ := Lib.hid (HEQ.out none (fun h => absurd h (by rw [HLM.out]; simp)))
      clear HEQ
      subst h0
      go_wp2_with fail
      with_reducible refine (HQ.out).mono ?_
      rintro e w3 ⟨rfl, hb3⟩
      have HB3 := Lib.hid (HB2.out.trans (hb3.mono HB2.out.size))
      clear hb3 HQ
      go_wp2_with fail
      go_ret
      exact ⟨rfl, HB3.out⟩
    | some ad =>
      by_cases hm0 : m = 0
      · subst hm0
        have HQ := Lib.hid (HEQ.out (some ad) (fun h => absurd h (by rw [HLM.out]; simp)))
        clear HEQ
        go_wp2_with fail
        with_reducible refine (HQ.out).mono ?_
        rintro e w3 ⟨rfl, hb3⟩
        have HB3 := Lib.hid (HB2.out.trans (hb3.mono HB2.out.size))
        clear hb3 HQ
        go_wp2_with fail
        go_ret
        exact ⟨rfl, HB3.out⟩
      · obtain ⟨k, off, he, -, -⟩ := HL.out (by rw [← HN.out]; omega)
        obtain rfl := Option.some.inj he
        have HQ := Lib.hid (HEQ.out (some ⟨k, off + p * 2, none⟩) (lines_take (lines_drop HL2.out p) m))
        clear HEQ he
        go_wp2_with fail
        with_reducible refine (HQ.out).mono ?_
        rintro e w3 ⟨rfl, hb3⟩
        have HB3 := Lib.hid (HB2.out.trans (hb3.mono HB2.out.size))
        clear hb3 HQ
        go_wp2_with fail
        go_ret
        exact ⟨rfl, HB3.out⟩
  · have hd : decide ((p : Int) + (m : Int) ≤ (n : Int)) = false := decide_eq_false (by omega)
    have HRES : Hid (R = false) := Lib.hid (by rw [HR.out]; simp [hle])
    go_wp2_with fail
    go_ret
    exact ⟨by rw [HRES.out]; rfl, HB2.out⟩
end Go.Proofs.Ytigghcmbdnidnaa.H

namespace Go.Proofs.Ytigghcmbdnidnaa.H
set_option linter.unusedVariables false
set_option linter.unusedSimpArgs false
open Go.RowKit
open T S
open V (grown_of)
open I (alloc1 own_at own_below)
open N (Ln)

theorem chain_mem : ∀ {hs : List Hk} {x y : Int}, chain x y hs = true → ∀ h ∈ hs, rgt h = true
  | h :: r, x, y, hc, z, hz => by
    rw [chain, Bool.and_eq_true, Bool.and_eq_true] at hc
    rcases List.mem_cons.1 hz with rfl | hz
    · exact hc.1.1
    · exact chain_mem hc.2 z hz
theorem rgt_ck {h : Hk} (hr : rgt h = true) : ck h.es = 0 := by
  by_cases e : ck h.es = 0
  · exact e
  · unfold rgt at hr; rw [decide_eq_false e] at hr; simp at hr
theorem wl_len (a : List Ln) : ∀ (hs : List Hk) (p : Nat), (∀ h ∈ hs, h.es.length ≤ 800) → (wl a p hs).length ≤ 1 + hs.length * 801
  | [], p, _ => by simp [wl]
  | h :: r, p, hh => by
    have := wl_len a r (h.oa + h.o).toNat (fun z hz => hh z (List.mem_cons_of_mem _ hz))
    have h1 := hh h (List.mem_cons_self ..)
    rw [wl, List.length_cons, List.length_append, List.length_cons]
    omega
theorem wl_lines (a : List Ln) (ha : a.length ≤ 400) : ∀ (hs : List Hk) (p : Nat), (∀ h ∈ hs, ∀ e ∈ h.es, e.2.length ≤ 800) → ∀ e ∈ wl a p hs, e.2.length ≤ 800
  | [], p, _, e, he => by
    simp only [wl, List.mem_singleton] at he
    subst he
    simp only [List.length_drop]; omega
  | h :: r, p, hh, e, he => by
    rw [wl] at he
    rcases List.mem_cons.1 he with rfl | he
    · simp only [List.length_take, List.length_drop]; omega
    · rcases List.mem_append.1 he with he | he
      · exact hh h (List.mem_cons_self ..) e he
      · exact wl_lines a ha r _ (fun z hz => hh z (List.mem_cons_of_mem _ hz)) e he
theorem tl_each {es : List Ed} {e : Ed} (he : e ∈ es) : e.2.length ≤ tl es := by
  induction es with
  | nil => cases he
  | cons x r ih =>
    rw [show tl (x :: r) = x.2.length + tl r by simp [tl]]
    rcases List.mem_cons.1 he with rfl | he
    · omega
    · have := ih he; omega
theorem hck_ok {hs : List Hk} (h : hck hs = 0) : hs.length ≤ 400 ∧ chain 0 0 hs = true := by
  unfold hck at h
  split at h
  · cases h
  · rename_i h1
    split at h
    · rename_i h2; exact ⟨by omega, h2⟩
    · cases h
theorem raw1_at {w : World} {x : Nat} {d : Int} {A : Option Addr} {n c : Nat} (h : w.heap[x]? = some (.cells #[.int .i64 d, .slice A n c] 54 (0, 0))) : RawAt w (some ⟨x, 0, none⟩) [⟨d, A, n, c⟩] := fun _ => ⟨x, 0, rfl, L.blk_lt h, fun j u hu => by
  have hj : j < 2 := by have := (List.getElem?_eq_some_iff.1 hu).1; simpa [rawCells] using this
  rw [Nat.zero_add, L.blk_cell h j]
  match j, hj with
  | 0, _ => exact hu
  | 1, _ => exact hu⟩
set_option maxRecDepth 100000 in
set_option maxHeartbeats 8000000 in
theorem whole_any (A B : Option Addr) (c c' b : Nat) (hs : List Hk) (a : List Ln) (w : World) (hH : HksIn b w A hs) (hok : HksOk hs) (hL : LinesIn w B a) (hc : a.length ≤ c') (ham : a.length ≤ maxLen) :
    Calls Try.prog 51 #[.slice A hs.length c, .slice B a.length c'] w (RnEnd w (whl hs a).1 (whl hs a).2) := by
  have HC := Lib.hid (hcheck_any A c b hs w hH hok)
  have HH := Lib.hid (hH.low (Nat.zero_le _))
  have hl := hok.len
  have HES := Lib.hid hok.es
  have HL := Lib.hid hL
  unfold maxLen at hl ham
  unfold CkEnd at HC
  clear hH hok hL
  by_cases hq0 : hck hs = 0
  · rw [hq0] at HC
    by_cases halong : 400 < a.length
    · have HW : Hid (whl hs a = ([], 4)) := Lib.hid (by unfold whl; rw [if_pos hq0, if_pos halong])
      rw [HW.out]
      have h4 : (400 : Int) < (a.length : Int) := by omega
      clear hq0 halong HW
      go_enter Try.func51, Try.ntmps51
      go_wp2_with fail
      with_reducible refine (HC.out).mono ?_
      rintro e w1 ⟨rfl, hb1⟩
      go_wp2_with fail
      go_ret2
      exact ⟨none, 0, rfl, fun h => absurd h (by simp), hb1⟩
    · have h4 : ¬ (400 : Int) < (a.length : Int) := by omega
      have ha4 : a.length ≤ 400 := by omega
      obtain ⟨hn4, hch⟩ := hck_ok hq0
      have HW8 : Hid (hs.all (stn a) = false → whl hs a = ([], 8)) := Lib.hid (fun h => by unfold whl; rw [if_pos hq0, if_neg halong, if_neg (by rw [h]; simp)])
      have HW0 : Hid (hs.all (stn a) = true → whl hs a = (nrm (wl a 0 hs), ck (wl a 0 hs))) := Lib.hid (fun h => by unfold whl; rw [if_pos hq0, if_neg halong, if_pos h])
      generalize whl hs a = RES at *
      obtain ⟨res, eres⟩ := RES
      have HCH := Lib.hid hch
      have HEL : Hid (∀ h ∈ hs, h.es.length ≤ 800 ∧ ∀ e ∈ h.es, e.2.length ≤ 800) := Lib.hid (fun h hm => by
        have := ck_ok (rgt_ck (chain_mem hch h hm))
        exact ⟨this.1, fun e he => Nat.le_trans (tl_each he) this.2.1⟩)
      clear hq0 halong hch
      simp only at HW8 HW0 ⊢
      obtain ⟨an, han⟩ : ∃ n, n = a.length := ⟨_, rfl⟩
      have HAN := Lib.hid han
      rw [← han] at h4 ha4 hc ham ⊢
      clear han
      go_enter Try.func51, Try.ntmps51
      go_wp2_with fail
      with_reducible refine (HC.out).mono ?_
      rintro e w1 ⟨rfl, hb1⟩
      have HB1 := Lib.hid hb1
      clear hb1 HC
      go_wp2_with fail
      go_loopg [21, 7, 8] hs.length (fun m iv sv pv wr => ∃ (k p : Nat) (y : Int) (SA : Option Addr) (cap : Nat) (rs : List Raw) (es0 : List Ed), k ≤ hs.length ∧ iv = .int .i64 k ∧ sv = .slice SA rs.length cap ∧ pv = .int .i64 p ∧ hs.length - k ≤ m ∧ p ≤ an ∧ rs.length ≤ k * 801 ∧ Hid (Jr w1 wr (.slice SA rs.length cap) rs es0) ∧ Hid (es0 ++ wl a p (hs.drop k) = wl a 0 hs) ∧ Hid ((hs.take k).all (stn a) = true) ∧ Hid (chain (p : Int) y (hs.drop k) = true))
      case atStart => exact ⟨0, 0, 0, none, 0, [], [], Nat.zero_le _, rfl, rfl, rfl, by omega, Nat.zero_le _, by simp, Lib.hid (Jr.nil w1), Lib.hid (by simp), Lib.hid rfl, Lib.hid (by simpa using HCH.out)⟩
      case round =>
        obtain ⟨k, p, y, SA, cap, rs, es0, hk, rfl, rfl, rfl, hmm, hpa, hrn, HJ, HWL, HAL, HCN⟩ := hrel
        have HBW := Lib.hid (HB1.out.trans (HJ.out.b.mono HB1.out.size))
        by_cases hlt : k < hs.length
        · obtain ⟨bk, off, EA, ec, hAe, c0, c1, c2, c3, c4, hE, -, hez⟩ := hunk_at HH.out HBW.out hlt
          subst hAe
          have hcc := HCN.out
          rw [chain_cons hlt, Bool.and_eq_true, Bool.and_eq_true] at hcc
          obtain ⟨⟨hr, hf⟩, hcn⟩ := hcc
          have hnum := rgt_nums hr
          have hckh := rgt_ck hr
          have hel := (HEL.out _ (List.getElem_mem hlt)).1
          have hes := HES.out _ (List.getElem_mem hlt)
          have hwl : wl a p (hs.drop k) = (1, (a.drop p).take (hs[k].oa.toNat - p)) :: (hs[k].es ++ wl a (hs[k].oa + hs[k].o).toNat (hs.drop (k + 1))) := by rw [List.drop_eq_getElem_cons hlt, wl]
          have HTA : Hid ((hs.take (k + 1)).all (stn a) = ((hs.take k).all (stn a) && stn a hs[k])) := Lib.hid (by rw [List.take_succ_eq_append_getElem hlt, List.all_append]; simp)
          have HFA : Hid (stn a hs[k] = false → hs.all (stn a) = false) := Lib.hid (fun h => by
            rw [List.all_eq_false]
            exact ⟨hs[k], List.getElem_mem hlt, by rw [h]; simp⟩)
          have hpo : (p : Int) ≤ hs[k].oa := (of_decide_eq_true hf).1
          have hh : hs[k] = ⟨hs[k].oa, hs[k].o, hs[k].na, hs[k].n, hs[k].es⟩ := rfl
          have hstn : stn a hs[k] = true → hs[k].oa + hs[k].o ≤ (a.length : Int) := fun h => (of_decide_eq_true h).1
          rw [hh] at HTA HFA hstn
          simp only at HTA HFA hstn
          rw [hwl] at HWL
          clear hwl hh HCN hf
          obtain ⟨⟨n1a, n1b⟩, ⟨n2a, n2b⟩, -, -⟩ := hnum
          obtain ⟨q, hq⟩ : ∃ q : Nat, hs[k].oa = (q : Int) := ⟨hs[k].oa.toNat, by omega⟩
          obtain ⟨m, hm⟩ : ∃ m : Nat, hs[k].o = (m : Int) := ⟨hs[k].o.toNat, by omega⟩
          rw [hq] at c0 n1a n1b hpo hcn HWL HTA HFA hstn
          rw [hm] at c1 n2a n2b hcn HWL HTA HFA hstn
          rw [show ((q : Int) + (m : Int)).toNat = q + m by omega, Int.toNat_natCast] at HWL
          rw [show ((q : Int) + (m : Int)) = ((q + m : Nat) : Int) by omega] at hcn
          rw [← HAN.out] at hstn
          have HCN1 := Lib.hid hcn
          clear hcn hq hm hr
          generalize hs[k].na + hs[k].n = y1 at *
          generalize hs[k].na = na at *
          generalize hs[k].n = nn at *
          generalize hs[k].es = es at *
          obtain ⟨W1, hW1⟩ : ∃ W : World, W = wr.alloc (hkC q m na nn EA es.length ec) := ⟨_, rfl⟩
          have hX := heap_alloc_new wr (hkC q m na nn EA es.length ec)
          rw [← hW1] at hX
          have hb1 : Below wr.heap.size wr W1 := by rw [hW1]; exact alloc1 _ _
          have HBX := Lib.hid (HBW.out.trans (hb1.mono HBW.out.size))
          have HJ1 := Lib.hid (HJ.out.below hb1)
          have HX := Lib.hid hX
          have HST := Lib.hid (stands_any EA B ec c' ⟨q, m, na, nn, es⟩ a W1 (hE.below HBX.out) hes (HL.out.below HBX.out) (by rw [← HAN.out]; exact hc) (by rw [← HAN.out]; exact ha4) ⟨n1a, n1b⟩ ⟨n2a, n2b⟩ hckh)
          unfold hkV BlEnd at HST
          simp only at HST
          rw [← HAN.out] at HST
          have HE := Lib.hid (hE.below HB1.out)
          have HEZ := Lib.hid hez
          obtain ⟨x0, x1, x2, x3, x4⟩ := hkC_cells hX
          have h0k : (0 : Int) ≤ (k : Int) := by omega
          have hki : (k : Int) < (hs.length : Int) := by omega
          have hwq : IntKind.i64.wrap ((q : Int) + (m : Int)) = (q : Int) + (m : Int) := by rw [IntKind.wrap_i64]; omega
          clear hX hE hes HJ hb1 hez hckh
          go_upto_region 11 with fail
          rw [← hW1]
          obtain ⟨xb, hxb⟩ : ∃ xb, xb = wr.heap.size := ⟨_, rfl⟩
          rw [← hxb] at x0 x1 x2 x3 x4 HX ⊢
          clear hW1 hxb c0 c1 c2 c3 c4
          cases hst : stn a ⟨q, m, na, nn, es⟩ with
          | false =>
            rw [hst] at HST
            have HR := Lib.hid (HW8.out (HFA.out hst))
            obtain ⟨rfl, rfl⟩ : res = [] ∧ eres = 8 := by have := HR.out; injection this with h1 h2; exact ⟨h1, h2⟩
            clear hst HW8 HW0 HR
            go_wp2_with fail
            with_reducible refine (HST.out).mono ?_
            rintro e w2 ⟨rfl, hb2⟩
            have HB2 := Lib.hid (HBX.out.trans (hb2.mono HBX.out.size))
            clear hb2 HST
            go_wp2_with fail
            go_ret2
            exact ⟨none, 0, rfl, fun h => absurd h (by simp), HB2.out⟩
          | true =>
            rw [hst] at HST
            have hqm := hstn hst
            have HAL1 : Hid ((hs.take (k + 1)).all (stn a) = true) := Lib.hid (by rw [HTA.out, HAL.out, hst]; rfl)
            clear hst hstn HTA HFA HAL
            go_wp2_with fail
            with_reducible refine (HST.out).mono ?_
            rintro e w2 ⟨rfl, hb2⟩
            have HB2 := Lib.hid (HBX.out.trans (hb2.mono HBX.out.size))
            have HX2 := Lib.hid ((hb2.block _ (L.blk_lt HX.out)).trans HX.out)
            have HJ2 := Lib.hid (HJ1.out.below hb2)
            clear hb2 HST x0 x1 x2 x3 x4 HX HJ1
            obtain ⟨x0, x1, x2, x3, x4⟩ := hkC_cells HX2.out
            have hpq : p ≤ q := by omega
            have hqn : q ≤ an := by omega
            obtain ⟨sl, hsl⟩ : ∃ l, l = (a.drop p).take (q - p) := ⟨_, rfl⟩
            have HSA := Lib.hid (stay_any B c' p q a w2 (HL.out.below HB2.out) (by rw [← HAN.out]; exact hc) hpq (by rw [← HAN.out]; exact hqn))
            rw [← hsl] at HSA HWL
            rw [← HAN.out] at HSA
            clear hsl
            go_wp2_with fail
            with_reducible refine (HSA.out).mono ?_
            rintro e w3 ⟨LA, rfl, hLA, hLz, hb3⟩
            have HB3 := Lib.hid (HB2.out.trans (hb3.mono HB2.out.size))
            have HX3 := Lib.hid ((hb3.block _ (L.blk_lt HX2.out)).trans HX2.out)
            have HJ3 := Lib.hid (HJ2.out.below hb3)
            have HR1 : Hid (RawsOk 0 w1 [⟨1, LA, sl.length, sl.length⟩] [(1, sl)]) := Lib.hid ⟨rfl, fun j h1 h2 => by
              obtain rfl : j = 0 := by simpa using h1
              exact ⟨rfl, rfl, hLA w1 (HL.out.below HB1.out), Nat.le_refl _, hLz, fun _ _ => Nat.zero_le _⟩⟩
            clear hb3 HSA x0 x1 x2 x3 x4 HX2 HJ2 hLA hLz
            have hx5 := heap_alloc_new w3 (.cells #[.int .i64 1, .slice LA sl.length sl.length] 54)
            have HRA := Lib.hid (raw1_at hx5)
            have HJA := Lib.hid (HJ3.out.below (alloc1 w3 (.cells #[.int .i64 1, .slice LA sl.length sl.length] 54)))
            have HXA := Lib.hid (((alloc1 w3 (.cells #[.int .i64 1, .slice LA sl.length sl.length] 54)).block _ (L.blk_lt HX3.out)).trans HX3.out)
            have hbs : w1.heap.size ≤ (w3.alloc (.cells #[.int .i64 1, .slice LA sl.length sl.length] 54)).heap.size := HJA.out.b.size
            have hrs1 : rs.length + ([⟨1, LA, sl.length, sl.length⟩] : List Raw).length ≤ 4000000 := by simp; omega
            clear hx5 HX3 HJ3
            go_upto_region 14 with (at_builtin; refine wpList_append_eds (w := w3.alloc (.cells #[.int .i64 1, .slice LA sl.length sl.length] 54)) rfl (.tmp 29) (.tmp 35) rfl w1.heap.size (.slice SA rs.length cap) rs [⟨1, LA, sl.length, sl.length⟩] rfl HJA.out.own (some ⟨w3.heap.size, 0, none⟩) 1 1 rfl rfl HRA.out (fun e => by cases e) hrs1 hbs ?_; intro v4 w4 ho4 hg4; have HO4 := Lib.hid ho4; have HG4 := Lib.hid hg4; clear ho4 hg4)
            obtain ⟨SB, cap4, rfl, -, -⟩ := own_form HO4.out
            have HJ4 := Lib.hid (HJA.out.add (Below.refl _ _) HG4.out HO4.out HR1.out)
            have hx4 := (HG4.out.block _ (L.blk_lt HXA.out) (fun e => own_type HJA.out.own HXA.out (by decide) e.symm)).trans HXA.out
            have HX4 := Lib.hid hx4
            clear HO4 HG4 HJA HXA HRA HR1 hbs hrs1 hx4
            obtain ⟨x0, x1, x2, x3, x4⟩ := hkC_cells HX4.out
            obtain ⟨rs', hr', hat'⟩ := eds_rawAt HE.out
            have HR' := Lib.hid hr'
            have HAT := Lib.hid (hat'.below HJ4.out.b)
            have hnn := hr'.1.symm
            have hbs : w1.heap.size ≤ w4.heap.size := HJ4.out.b.size
            have hrs2 : (rs ++ [(⟨1, LA, sl.length, sl.length⟩ : Raw)]).length + rs'.length ≤ 4000000 := by rw [← hnn]; simp; omega
            have hrs3 : (rs ++ [(⟨1, LA, sl.length, sl.length⟩ : Raw)] ++ rs').length ≤ (k + 1) * 801 := by rw [List.length_append, ← hnn]; simp; omega
            have HNN := Lib.hid hnn
            have HRS3 := Lib.hid hrs3
            generalize hrr : rs ++ [(⟨1, LA, sl.length, sl.length⟩ : Raw)] = r2 at *
            obtain ⟨n2, hn2⟩ : ∃ n2, n2 = r2.length := ⟨_, rfl⟩
            have HN2 := Lib.hid hn2
            clear hr' hat' hrs3 hrr hnn
            rw [← hn2]
            have HV4 : Hid (w4.ownsRow w1.heap.size 54 2 (.slice SB n2 cap4) r2.length (rawCells r2)) := Lib.hid (by rw [hn2]; exact HJ4.out.own)
            clear hn2
            go_upto_region 15 with (at_builtin; refine wpList_append_eds (w := w4) rfl (.tmp 37) (.tmp 39) rfl w1.heap.size (.slice SB n2 cap4) r2 rs' rfl HV4.out EA ec es.length rfl HNN.out HAT.out HEZ.out hrs2 hbs ?_; intro v5 w5 ho5 hg5; have HO5 := Lib.hid ho5; have HG5 := Lib.hid hg5; clear ho5 hg5)
            obtain ⟨SC, cap5, rfl, -, -⟩ := own_form HO5.out
            have HG5' : Hid (w4.grownBy w5 (Value.slice SB r2.length cap4).ownBlock) := Lib.hid (by rw [← HN2.out]; exact HG5.out)
            have HJ5 := Lib.hid (HJ4.out.add (Below.refl _ _) HG5'.out HO5.out HR'.out)
            have hx5 := (HG5'.out.block _ (L.blk_lt HX4.out) (fun e => own_type HJ4.out.own HX4.out (by decide) e.symm)).trans HX4.out
            clear HO5 HG5 HG5' HJ4 HAT HV4 x0 x1 x2 x3 x4 HX4 hrs2 hbs HNN
            obtain ⟨x0, x1, x2, x3, x4⟩ := hkC_cells hx5
            clear hx5
            go_wp2_with fail
            go_roundg (hs.length - (k + 1))
            case rel => exact ⟨k + 1, q + m, y1, SC, cap5, r2 ++ rs', es0 ++ [(1, sl)] ++ es, by omega, by go_num, rfl, by push_cast; rfl, Nat.le_refl _, by omega, HRS3.out, HJ5, Lib.hid (by rw [← HWL.out]; simp), HAL1, HCN1⟩
            case measure => omega
        · obtain rfl : k = hs.length := by omega
          have HRES := Lib.hid (HW0.out (by have := HAL.out; rwa [List.take_length] at this))
          obtain ⟨rfl, rfl⟩ : res = nrm (wl a 0 hs) ∧ eres = ck (wl a 0 hs) := by have := HRES.out; injection this with h1 h2; exact ⟨h1, h2⟩
          have hfin : es0 ++ [(1, a.drop p)] = wl a 0 hs := by have := HWL.out; rw [List.drop_length] at this; exact this
          have hwlen := wl_len a hs 0 (fun h hm => (HEL.out h hm).1)
          have hwln := wl_lines a (by rw [← HAN.out]; exact ha4) hs 0 (fun h hm => (HEL.out h hm).2)
          rw [← hfin] at hwlen hwln
          have HFN := Lib.hid hfin
          have HOKF : Hid (EdsOk (es0 ++ [(1, a.drop p)])) := Lib.hid ⟨by unfold maxLen; omega, fun e he => by have := hwln e he; unfold maxLen; omega⟩
          have HSA := Lib.hid (stay_any B c' p an a wr (HL.out.below HBW.out) (by rw [← HAN.out]; exact hc) hpa (by rw [HAN.out]; exact Nat.le_refl _))
          have htk : (a.drop p).take (an - p) = a.drop p := List.take_of_length_le (by rw [List.length_drop, HAN.out]; exact Nat.le_refl _)
          rw [htk] at HSA
          rw [← HAN.out] at HSA
          generalize a.drop p = sl at *
          clear HW8 HW0 HRES hfin hwlen hwln htk HWL HAL HCN
          go_wp2_with fail
          with_reducible refine (HSA.out).mono ?_
          rintro e w3 ⟨LA, rfl, hLA, hLz, hb3⟩
          have HB3 := Lib.hid (HBW.out.trans (hb3.mono HBW.out.size))
          have HJ3 := Lib.hid (HJ.out.below hb3)
          have HR1 : Hid (RawsOk 0 w1 [⟨1, LA, sl.length, sl.length⟩] [(1, sl)]) := Lib.hid ⟨rfl, fun j h1 h2 => by
            obtain rfl : j = 0 := by simpa using h1
            exact ⟨rfl, rfl, hLA w1 (HL.out.below HB1.out), Nat.le_refl _, hLz, fun _ _ => Nat.zero_le _⟩⟩
          clear hb3 HSA HJ hLA hLz
          have hx5 := heap_alloc_new w3 (.cells #[.int .i64 1, .slice LA sl.length sl.length] 54)
          have HRA := Lib.hid (raw1_at hx5)
          have HJA := Lib.hid (HJ3.out.below (alloc1 w3 (.cells #[.int .i64 1, .slice LA sl.length sl.length] 54)))
          have hbs : w1.heap.size ≤ (w3.alloc (.cells #[.int .i64 1, .slice LA sl.length sl.length] 54)).heap.size := HJA.out.b.size
          have hrs1 : rs.length + ([⟨1, LA, sl.length, sl.length⟩] : List Raw).length ≤ 4000000 := by simp; omega
          have HFIN : Hid (∀ (v4 : Value) (w4 : World), w4.ownsRow w1.heap.size 54 2 v4 (rs ++ [(⟨1, LA, sl.length, sl.length⟩ : Raw)]).length (rawCells (rs ++ [(⟨1, LA, sl.length, sl.length⟩ : Raw)])) → (w3.alloc (.cells #[.int .i64 1, .slice LA sl.length sl.length] 54)).grownBy w4 (Value.slice SA rs.length cap).ownBlock → ∃ VA vc n5, v4 = .slice VA n5 vc ∧ Below w.heap.size w w4 ∧ Calls Try.prog 49 #[.slice VA n5 vc] w4 (NrEnd w4 (nrm (es0 ++ [(1, sl)])) (ck (es0 ++ [(1, sl)])))) := Lib.hid (fun v4 w4 h1 h2 => by
            obtain ⟨VA, vc, rfl, -, -⟩ := own_form h1
            have hj := HJA.out.add (Below.refl _ _) h2 h1 HR1.out
            obtain ⟨e1, e2⟩ := hj.read
            refine ⟨VA, vc, (es0 ++ [(1, sl)]).length, by rw [e1], HB1.out.trans (hj.b.mono HB1.out.size), ?_⟩
            exact normal_any VA vc 0 (es0 ++ [(1, sl)]) w4 e2 HOKF.out)
          have HVA := Lib.hid HJA.out.own
          clear hx5 HJ3 HJA HR1
          go_wp2_with (at_builtin; refine wpList_append_eds (w := w3.alloc (.cells #[.int .i64 1, .slice LA sl.length sl.length] 54)) rfl (.tmp 47) (.tmp 53) rfl w1.heap.size (.slice SA rs.length cap) rs [⟨1, LA, sl.length, sl.length⟩] rfl HVA.out (some ⟨w3.heap.size, 0, none⟩) 1 1 rfl rfl HRA.out (fun e => by cases e) hrs1 hbs ?_; intro v4 w4 ho4 hg4; obtain ⟨VA, vc, n5, rfl, hB4, hN4⟩ := HFIN.out v4 w4 ho4 hg4; have HB4 := Lib.hid hB4; have HN4 := Lib.hid hN4; clear ho4 hg4 hB4 hN4)
          with_reducible refine (HN4.out).mono ?_
          intro e w5 h5
          obtain ⟨NA, nc, rfl, hE5, hb5⟩ := h5.read
          have HE5 := Lib.hid hE5
          have HB5 := Lib.hid (HB4.out.trans (hb5.mono HB4.out.size))
          clear h5 hE5 hb5 HN4
          go_wp2_with fail
          go_ret2
          exact ⟨NA, nc, by rw [← HFN.out]; rfl, by rw [← HFN.out]; exact HE5.out, HB5.out⟩
  · have HW : Hid (whl hs a = ([], hck hs)) := Lib.hid (by unfold whl; rw [if_neg hq0])
    rw [HW.out]
    generalize hck hs = q at *
    have h0 : (q == 0) = false := beq_eq_false_iff_ne.2 hq0
    have h1 : (q != 0) = true := by simp [bne, h0]
    clear hq0 HW
    go_enter Try.func51, Try.ntmps51
    go_wp2_with fail
    with_reducible refine (HC.out).mono ?_
    rintro e w1 ⟨rfl, hb1⟩
    go_wp2_with fail
    go_ret2
    exact ⟨none, 0, rfl, fun h => absurd h (by simp), hb1⟩
end Go.Proofs.Ytigghcmbdnidnaa.H

namespace Go.Proofs.Ytigghcmbdnidnaa.H
set_option linter.unusedVariables false
set_option linter.unusedSimpArgs false
open T S
open N (Ln)

theorem flat_join_cons (h : Hk) (r : List Hk) : join (h :: r) = h.es ++ join r := rfl
theorem chgN_app (a b : List Ed) : chgN (a ++ b) = chgN a + chgN b := by simp [chgN, List.sum_append]
theorem chgN_cons (e : Ed) (r : List Ed) : chgN (e :: r) = (if e.1 == 2 || e.1 == 3 then e.2.length else 0) + chgN r := by simp [chgN]
theorem tl_cons (e : Ed) (r : List Ed) : tl (e :: r) = e.2.length + tl r := by simp [tl]
theorem putH_chg (d : Int) (l : List Ln) (h : Hk) : chgN (putH d l h).es = chgN h.es + if d == 2 || d == 3 then l.length else 0 := by
  rw [chgN_flat, chgN_flat, putH_es, cnt_app, cnt_tag]
theorem putH_tl (d : Int) (l : List Ln) (h : Hk) : tl (putH d l h).es = tl h.es + l.length := by
  rw [tl_flat, tl_flat, putH_es, List.length_append, tag_len]
theorem hg_chg {c : Nat} : ∀ (r : List Ed) (a b : Nat) (h : Hk), chgN (join (hg c a b h r)) = chgN h.es + chgN r
  | [], a, b, h => by simp [hg, join, chgN]
  | (s, l) :: r, a, b, h => by
    rw [hg, chgN_cons]
    simp only
    by_cases hs : s = 1
    · subst hs
      rw [if_pos rfl]
      have e1 : ∀ m : List Ln, ∀ g : Hk, chgN (putH 1 m g).es = chgN g.es := fun m g => by rw [putH_chg]; simp
      by_cases hr : r = []
      · subst hr
        rw [if_pos rfl, flat_join_cons, chgN_app, e1]; simp [join, chgN]
      · rw [if_neg hr]
        by_cases hl : l.length ≤ 2 * c
        · rw [if_pos hl, hg_chg r, e1]; simp
        · rw [if_neg hl, flat_join_cons, chgN_app, hg_chg r, e1, e1]; simp [newH, chgN]
    · rw [if_neg hs, hg_chg r, putH_chg]; omega
theorem bld_chg {c : Nat} (es : List Ed) : chgN (join (bld c es)) = chgN es := by
  cases es with
  | nil => rfl
  | cons e r =>
    obtain ⟨s, l⟩ := e
    rw [bld, chgN_cons]
    simp only
    by_cases hs : s = 1
    · subst hs
      rw [if_pos rfl]
      by_cases hr : r = []
      · subst hr; rw [if_pos rfl]; simp [join, chgN]
      · rw [if_neg hr, hg_chg, putH_chg]; simp [newH, chgN]
    · rw [if_neg hs, hg_chg, putH_chg]; simp [newH, chgN]
theorem hg_tl {c : Nat} : ∀ (r : List Ed) (a b : Nat) (h : Hk), tl (join (hg c a b h r)) ≤ tl h.es + tl r
  | [], a, b, h => by simp [hg, join, tl]
  | (s, l) :: r, a, b, h => by
    rw [hg, tl_cons]
    simp only
    by_cases hs : s = 1
    · subst hs
      rw [if_pos rfl]
      by_cases hr : r = []
      · subst hr
        rw [if_pos rfl, flat_join_cons, tl_app, putH_tl, List.length_take]; simp [join, tl]; omega
      · rw [if_neg hr]
        by_cases hl : l.length ≤ 2 * c
        · rw [if_pos hl]
          have := hg_tl (c := c) r (a + l.length) (b + l.length) (putH 1 l h)
          rw [putH_tl] at this
          omega
        · rw [if_neg hl, flat_join_cons, tl_app, putH_tl, List.length_take]
          have := hg_tl (c := c) r (a + l.length) (b + l.length) (putH 1 (l.drop (l.length - c)) (newH (a + (l.length - c)) (b + (l.length - c))))
          rw [putH_tl, List.length_drop] at this
          have e0 : tl (newH (a + (l.length - c)) (b + (l.length - c))).es = 0 := rfl
          omega
    · rw [if_neg hs]
      have := hg_tl (c := c) r (a + lenO s l) (b + lenN s l) (putH s l h)
      rw [putH_tl] at this
      omega
theorem bld_tl {c : Nat} (es : List Ed) : tl (join (bld c es)) ≤ tl es := by
  cases es with
  | nil => exact Nat.le_refl _
  | cons e r =>
    obtain ⟨s, l⟩ := e
    rw [bld, tl_cons]
    simp only
    by_cases hs : s = 1
    · subst hs
      rw [if_pos rfl]
      by_cases hr : r = []
      · subst hr; rw [if_pos rfl]; simp [join, tl]
      · rw [if_neg hr]
        have := hg_tl (c := c) r l.length l.length (putH 1 (l.drop (l.length - c)) (newH (l.length - c) (l.length - c)))
        rw [putH_tl, List.length_drop] at this
        have e0 : tl (newH (l.length - c) (l.length - c)).es = 0 := rfl
        omega
    · rw [if_neg hs]
      have := hg_tl (c := c) r (lenO s l) (lenN s l) (putH s l (newH 0 0))
      rw [putH_tl] at this
      have e0 : tl (newH 0 0).es = 0 := rfl
      omega
theorem hg_len {c c' : Nat} (hc : c ≤ c') : ∀ (r : List Ed) (a b a' b' : Nat) (h h' : Hk), (hg c' a' b' h' r).length ≤ (hg c a b h r).length ∧ 1 ≤ (hg c' a' b' h' r).length
  | [], _, _, _, _, _, _ => ⟨Nat.le_refl _, Nat.le_refl _⟩
  | (s, l) :: r, a, b, a', b', h, h' => by
    rw [hg, hg]
    simp only
    by_cases hs : s = 1
    · subst hs
      rw [if_pos rfl, if_pos rfl]
      by_cases hr : r = []
      · rw [if_pos hr, if_pos hr]; exact ⟨Nat.le_refl _, Nat.le_refl _⟩
      · rw [if_neg hr, if_neg hr]
        by_cases hl : l.length ≤ 2 * c
        · rw [if_pos hl, if_pos (by omega)]; exact hg_len hc r _ _ _ _ _ _
        · rw [if_neg hl]
          by_cases hl' : l.length ≤ 2 * c'
          · rw [if_pos hl']
            have := hg_len hc r (a + l.length) (b + l.length) (a' + l.length) (b' + l.length) (putH 1 (l.drop (l.length - c)) (newH (a + (l.length - c)) (b + (l.length - c)))) (putH 1 l h')
            rw [List.length_cons]; omega
          · rw [if_neg hl']
            have := hg_len hc r (a + l.length) (b + l.length) (a' + l.length) (b' + l.length) (putH 1 (l.drop (l.length - c)) (newH (a + (l.length - c)) (b + (l.length - c)))) (putH 1 (l.drop (l.length - c')) (newH (a' + (l.length - c')) (b' + (l.length - c'))))
            rw [List.length_cons, List.length_cons]; omega
    · rw [if_neg hs, if_neg hs]; exact hg_len hc r _ _ _ _ _ _
/-- With more lines around there are not more hunks. -/
theorem bld_fewer {c c' : Nat} (hc : c ≤ c') (es : List Ed) : (bld c' es).length ≤ (bld c es).length := by
  cases es with
  | nil => exact Nat.le_refl _
  | cons e r =>
    rw [bld, bld]
    by_cases hs : e.1 = 1
    · rw [if_pos hs, if_pos hs]
      by_cases hr : r = []
      · rw [if_pos hr, if_pos hr]; exact Nat.le_refl _
      · rw [if_neg hr, if_neg hr]; exact (hg_len hc r _ _ _ _ _ _).1
    · rw [if_neg hs, if_neg hs]; exact (hg_len hc r _ _ _ _ _ _).1
theorem hg_many {c : Nat} : ∀ (r : List Ed) (a b : Nat) (h : Hk), (hg c a b h r).length ≤ r.length + 1
  | [], _, _, _ => Nat.le_refl _
  | e :: r, a, b, h => by
    rw [hg, List.length_cons]
    by_cases hs : e.1 = 1
    · rw [if_pos hs]
      by_cases hr : r = []
      · rw [if_pos hr]; simp
      · rw [if_neg hr]
        by_cases hl : e.2.length ≤ 2 * c
        · rw [if_pos hl]; exact Nat.le_succ_of_le (hg_many r _ _ _)
        · rw [if_neg hl, List.length_cons]; exact Nat.succ_le_succ (hg_many r _ _ _)
    · rw [if_neg hs]; exact Nat.le_succ_of_le (hg_many r _ _ _)
theorem bld_many {c : Nat} (es : List Ed) : (bld c es).length ≤ es.length := by
  cases es with
  | nil => exact Nat.le_refl _
  | cons e r =>
    rw [bld, List.length_cons]
    by_cases hs : e.1 = 1
    · rw [if_pos hs]
      by_cases hr : r = []
      · rw [if_pos hr]; simp
      · rw [if_neg hr]; exact hg_many r _ _ _
    · rw [if_neg hs]; exact hg_many r _ _ _
theorem full_len : ∀ {es : List Ed} {d : Int}, Nfc d es → es.length ≤ tl es
  | [], _, _ => Nat.le_refl _
  | e :: r, d, h => by
    have := full_len h.2.2.2
    have h1 : 0 < e.2.length := List.length_pos_iff.2 h.2.1
    rw [List.length_cons, tl_cons]; omega
theorem tl_mem : ∀ {hs : List Hk} {h : Hk}, h ∈ hs → tl h.es ≤ tl (join hs)
  | x :: r, h, hm => by
    rw [flat_join_cons, tl_app]
    rcases List.mem_cons.1 hm with rfl | hm
    · omega
    · have := tl_mem hm; omega
/-- What is right with a hunk that has ended. -/
theorem Cl.ck {c : Nat} {h : Hk} (hc : Cl c h) (ht : tl h.es ≤ 400) : ck h.es = 0 ∧ norm h.es = h.es ∧ chg h.es ≠ 0 ∧ sides h.es = (sd 3 h.es, sd 2 h.es) ∧ h.o ≤ 400 ∧ h.n ≤ 400 ∧ 0 ≤ h.o ∧ 0 ≤ h.n := by
  have h1 := full_len hc.nf
  have hk : S.ck h.es = 0 := ck_of (by omega) (by omega) hc.nf.good
  refine ⟨hk, norm_nf hc.nf, ?_, by unfold sides; rw [if_pos hk], ?_⟩
  · rw [chg_small (by omega)]
    obtain ⟨e, he, h2⟩ := hc.some
    have h3 := hc.nf.good e he
    have h4 := hc.nf.full e he
    have : 0 < chgN h.es := by
      clear hk h1 hc ht
      generalize h.es = es at *
      induction es with
      | nil => cases he
      | cons x r ih =>
        rw [chgN_cons]
        rcases List.mem_cons.1 he with rfl | he
        · have := List.length_pos_iff.2 h4
          have h5 : (e.1 == 2 || e.1 == 3) = true := by simp; omega
          rw [if_pos h5]; omega
        · have := ih he; omega
    omega
  · have := sd_len 3 h.es
    have := sd_len 2 h.es
    have := hc.o
    have := hc.n
    omega
theorem row_chain {p q : Nat} (hp : p ≤ 400) (hq : q ≤ 400) : ∀ (hs : List Hk) (st : Bool) (x y : Int), 0 ≤ x → 0 ≤ y → Row p q st x y hs → (∀ h ∈ hs, ∃ c, Cl c h ∧ tl h.es ≤ 400) → chain x y hs = true
  | [], _, _, _, _, _, _, _ => rfl
  | h :: r, st, x, y, hx, hy, ⟨h1, h2, h3, h4, h5, h6⟩, hc => by
    have hf := row_fits _ _ _ _ h6
    obtain ⟨c, hc1, hc2⟩ := hc h (List.mem_cons_self ..)
    obtain ⟨k1, k2, k3, k4, k5, k6, k7, k8⟩ := hc1.ck hc2
    have ho := hc1.o; have hn := hc1.n
    unfold chain
    rw [row_chain hp hq r true _ _ (by omega) (by omega) h6 (fun z hz => hc z (List.mem_cons_of_mem _ hz)), Bool.and_true, Bool.and_eq_true]
    constructor
    · unfold rgt
      rw [k4]
      simp only [Bool.and_eq_true, decide_eq_true_eq]
      exact ⟨⟨by omega, by omega, k7, k5, by omega, by omega, k8, k6⟩, k1, k2, k3, ho, hn⟩
    · unfold flw; exact decide_eq_true ⟨h1, h3⟩
/-- A script's hunks are right. -/
theorem bld_ck {c : Nat} {es : List Ed} (h : Nf es) (ht : tl es ≤ 400) : hck (bld c es) = 0 := by
  have h1 := bld_many (c := c) es
  have h2 := full_len h
  have h3 : ∀ x ∈ bld c es, ∃ c, Cl c x ∧ tl x.es ≤ 400 := fun x hx => ⟨c, bld_cl h x hx, by have := tl_mem hx; have := bld_tl (c := c) es; omega⟩
  unfold hck
  rw [if_neg, if_pos (row_chain (p := tl es) (q := tl es) ht ht _ false 0 0 (Int.le_refl _) (Int.le_refl _) bld_row h3)]
  rintro (h4 | h4)
  · omega
  · obtain ⟨x, hx, h5⟩ := List.any_eq_true.1 h4
    obtain ⟨d, hd1, hd2⟩ := h3 x hx
    have := (hd1.ck hd2).1
    simp [this] at h5
theorem drop_take_sub {l : List Ln} {c : Nat} (h : 2 * c ≤ l.length) : l.take c ++ ((l.drop c).take (l.length - c - c) ++ l.drop (l.length - c)) = l := by
  have h1 : l.drop (l.length - c) = (l.drop c).drop (l.length - c - c) := by rw [List.drop_drop]; congr 1; omega
  rw [h1, List.take_append_drop, List.take_append_drop]
/-- What a hunk of a script stands on. -/
def On (A : List Ln) (x : Hk) : Prop := ∃ q : Nat, x.oa = (q : Int) ∧ q + (sd 3 x.es).length ≤ A.length ∧ ∃ R, A.drop q = sd 3 x.es ++ R
theorem hg_wl {c : Nat} (A : List Ln) : ∀ (r : List Ed) (a b p q : Nat) (h : Hk), h.oa = (q : Int) → h.o = ((sd 3 h.es).length : Int) → p ≤ q → a = q + (sd 3 h.es).length → A.drop q = sd 3 h.es ++ sd 3 r → q + (sd 3 h.es).length + (sd 3 r).length = A.length →
    flat (wl A p (hg c a b h r)) = tag 1 ((A.drop p).take (q - p)) ++ flat h.es ++ flat r ∧ ∀ x ∈ hg c a b h r, On A x
  | [], a, b, p, q, h, h1, h2, h3, h4, h5, h6 => by
    have e0 : sd 3 ([] : List Ed) = [] := rfl
    rw [e0] at h5 h6
    rw [hg]
    constructor
    · rw [wl, wl, flat_cons, flat_app, h1, h2, show ((q : Int) + ((sd 3 h.es).length : Int)).toNat = q + (sd 3 h.es).length by omega, Int.toNat_natCast, ← List.drop_drop, h5, List.append_nil, List.drop_length]
      simp [flat, tag]
    · intro x hx
      obtain rfl := List.mem_singleton.1 hx
      exact ⟨q, h1, by omega, [], by rw [h5]⟩
  | (s, l) :: r, a, b, p, q, h, h1, h2, h3, h4, h5, h6 => by
    have esd : sd 3 ((s, l) :: r) = (if s = 3 then [] else l) ++ sd 3 r := by simp [sd]
    have pes : ∀ (m : List Ln) (g : Hk), sd 3 (putH s m g).es = sd 3 g.es ++ if s = 3 then [] else m := fun m g => by
      rw [sd_flat, putH_es, sdl_app, ← sd_flat, sdl_tag]
    have pno : ∀ (m : List Ln), (if s = 3 then [] else m : List Ln).length = lenO s m := fun m => by unfold lenO; split <;> rfl
    have po : ∀ (m : List Ln) (g : Hk), g.o = ((sd 3 g.es).length : Int) → (putH s m g).o = ((sd 3 (putH s m g).es).length : Int) := fun m g hg => by
      rw [putH_o, pes, List.length_append, pno, hg]; push_cast; rfl
    rw [esd, List.length_append, pno] at h6
    rw [esd] at h5
    rw [hg]
    simp only
    by_cases hs : s = 1
    · subst hs
      have e13 : ∀ m : List Ln, (if (1 : Int) = 3 then [] else m) = m := fun m => if_neg (by omega)
      have y1 : ∀ m : List Ln, lenO 1 m = m.length := fun m => rfl
      simp only [e13] at h5 pes
      rw [y1] at h6
      rw [if_pos rfl]
      by_cases hr : r = []
      · subst hr
        have e0 : sd 3 ([] : List Ed) = [] := rfl
        rw [e0, List.append_nil] at h5
        rw [e0] at h6
        rw [if_pos rfl]
        have hlt := List.length_take (i := c) (l := l)
        constructor
        · rw [wl, wl, flat_cons, flat_app, putH_oa, putH_o, putH_es, h1, h2, y1, show ((q : Int) + (((sd 3 h.es).length : Int) + ((l.take c).length : Int))).toNat = q + ((sd 3 h.es).length + (l.take c).length) by omega, Int.toNat_natCast, ← List.drop_drop, h5, ← List.drop_drop, List.drop_left]
          have : l.take c ++ l.drop (l.take c).length = l := by
            rw [hlt]
            by_cases hcl : c ≤ l.length
            · rw [Nat.min_eq_left hcl, List.take_append_drop]
            · rw [Nat.min_eq_right (by omega), List.take_of_length_le (by omega), List.drop_length, List.append_nil]
          rw [flat_cons, flat_cons, flat_nil, List.append_nil, List.append_nil]
          simp only [List.append_assoc]
          rw [← tag_app, this]
        · intro x hx
          obtain rfl := List.mem_singleton.1 hx
          refine ⟨q, by rw [putH_oa, h1], by rw [pes, List.length_append, hlt]; simp only [List.length_nil] at h6; omega, l.drop c, ?_⟩
          rw [pes, h5, List.append_assoc, List.take_append_drop]
      · rw [if_neg hr]
        by_cases hl : l.length ≤ 2 * c
        · rw [if_pos hl]
          have ih := hg_wl (c := c) A r (a + l.length) (b + l.length) p q (putH 1 l h) (by rw [putH_oa, h1]) (po l h h2) h3 (by rw [pes, List.length_append]; omega) (by rw [pes, h5, List.append_assoc]) (by rw [pes, List.length_append]; omega)
          refine ⟨?_, ih.2⟩
          rw [ih.1, putH_es, flat_cons]
          simp only [List.append_assoc]
        · rw [if_neg hl]
          have hm : (l.take c).length = c := by rw [List.length_take]; omega
          have hdl : (l.drop (l.length - c)).length = c := by rw [List.length_drop]; omega
          have ha : A.drop a = l ++ sd 3 r := by rw [h4, ← List.drop_drop, h5, List.drop_left]
          obtain ⟨g, hg⟩ : ∃ g, g = newH (a + (l.length - c)) (b + (l.length - c)) := ⟨_, rfl⟩
          have g1 : g.oa = ((a + (l.length - c) : Nat) : Int) := by rw [hg]; rfl
          have g2 : g.o = ((sd 3 g.es).length : Int) := by rw [hg]; rfl
          have g3 : sd 3 g.es = [] := by rw [hg]; rfl
          have g4 : flat g.es = [] := by rw [hg]; rfl
          rw [← hg]
          have ih := hg_wl (c := c) A r (a + l.length) (b + l.length) (a + c) (a + (l.length - c)) (putH 1 (l.drop (l.length - c)) g) (by rw [putH_oa, g1]) (po _ g g2) (by omega) (by rw [pes, g3, List.nil_append, hdl]; omega)
            (by rw [pes, g3, List.nil_append, ← List.drop_drop, ha, List.drop_append_of_le_length (by omega)]) (by rw [pes, g3, List.nil_append, hdl]; omega)
          constructor
          · rw [wl, flat_cons, flat_app, putH_oa, putH_o, putH_es, h1, h2, y1, hm, show ((q : Int) + (((sd 3 h.es).length : Int) + ((c : Nat) : Int))).toNat = a + c by omega, Int.toNat_natCast, ih.1, putH_es, g4, List.nil_append, ← List.drop_drop, ha, List.drop_append_of_le_length (by omega), List.take_append_of_le_length (by rw [List.length_drop]; omega), flat_cons]
            have hx := drop_take_sub (l := l) (c := c) (by omega)
            rw [show a + (l.length - c) - (a + c) = l.length - c - c by omega]
            have : tag 1 l = tag 1 (l.take c) ++ (tag 1 ((l.drop c).take (l.length - c - c)) ++ tag 1 (l.drop (l.length - c))) := by rw [← tag_app, ← tag_app, hx]
            rw [this]
            simp only [List.append_assoc]
          · intro x hx
            rcases List.mem_cons.1 hx with rfl | hx
            · refine ⟨q, by rw [putH_oa, h1], by rw [pes, List.length_append, hm]; omega, l.drop c ++ sd 3 r, ?_⟩
              rw [pes, h5, List.append_assoc, ← List.append_assoc (l.take c), List.take_append_drop]
            · exact ih.2 x hx
    · rw [if_neg hs]
      have ih := hg_wl (c := c) A r (a + lenO s l) (b + lenN s l) p q (putH s l h) (by rw [putH_oa, h1]) (po l h h2) h3 (by rw [pes, List.length_append, pno]; omega) (by rw [pes, h5, List.append_assoc]) (by rw [pes, List.length_append, pno]; omega)
      refine ⟨?_, ih.2⟩
      rw [ih.1, putH_es, flat_cons]
      simp only [List.append_assoc]
/-- The whole text's edits are the script's, line by line. -/
theorem bld_wl {c : Nat} (es : List Ed) (hn : Nf es) : flat (wl (sd 3 es) 0 (bld c es)) = flat es ∧ ∀ x ∈ bld c es, On (sd 3 es) x := by
  cases es with
  | nil => exact ⟨rfl, fun x hx => by cases hx⟩
  | cons e r =>
    obtain ⟨s, l⟩ := e
    have h3 := hn.2.2.1
    simp only at h3
    obtain ⟨A, hA⟩ : ∃ A, A = sd 3 ((s, l) :: r) := ⟨_, rfl⟩
    have esd : sd 3 ((s, l) :: r) = (if s = 3 then [] else l) ++ sd 3 r := by simp [sd]
    have pes : ∀ (m : List Ln) (g : Hk), sd 3 (putH s m g).es = sd 3 g.es ++ if s = 3 then [] else m := fun m g => by
      rw [sd_flat, putH_es, sdl_app, ← sd_flat, sdl_tag]
    have pno : ∀ (m : List Ln), (if s = 3 then [] else m : List Ln).length = lenO s m := fun m => by unfold lenO; split <;> rfl
    have po : ∀ (m : List Ln) (g : Hk), g.o = ((sd 3 g.es).length : Int) → (putH s m g).o = ((sd 3 (putH s m g).es).length : Int) := fun m g hg => by
      rw [putH_o, pes, List.length_append, pno, hg]; push_cast; rfl
    rw [esd] at hA
    rw [← esd] at hA
    rw [← hA]
    rw [esd] at hA
    rw [bld]
    simp only
    by_cases hs : s = 1
    · subst hs
      have e13 : ∀ m : List Ln, (if (1 : Int) = 3 then [] else m) = m := fun m => if_neg (by omega)
      simp only [e13] at hA pes
      rw [if_pos rfl]
      by_cases hr : r = []
      · subst hr
        rw [if_pos rfl]
        have e0 : sd 3 ([] : List Ed) = [] := rfl
        rw [e0, List.append_nil] at hA
        subst hA
        exact ⟨by simp [wl, flat], fun x hx => by cases hx⟩
      · rw [if_neg hr]
        obtain ⟨g, hg⟩ : ∃ g, g = newH (l.length - c) (l.length - c) := ⟨_, rfl⟩
        have g1 : g.oa = ((l.length - c : Nat) : Int) := by rw [hg]; rfl
        have g2 : g.o = ((sd 3 g.es).length : Int) := by rw [hg]; rfl
        have g3 : sd 3 g.es = [] := by rw [hg]; rfl
        have g4 : flat g.es = [] := by rw [hg]; rfl
        rw [← hg]
        have hdl : (l.drop (l.length - c)).length = min l.length c := by rw [List.length_drop]; omega
        have hAl : A.length = l.length + (sd 3 r).length := by rw [hA, List.length_append]
        have ih := hg_wl (c := c) A r l.length l.length 0 (l.length - c) (putH 1 (l.drop (l.length - c)) g) (by rw [putH_oa, g1]) (po _ g g2) (by omega) (by rw [pes, g3, List.nil_append, hdl]; omega)
            (by rw [pes, g3, List.nil_append, hA, List.drop_append_of_le_length (by omega)]) (by rw [pes, g3, List.nil_append, hdl, hAl]; omega)
        refine ⟨?_, ih.2⟩
        rw [ih.1, putH_es, g4, List.nil_append, List.drop_zero, Nat.sub_zero, hA, List.take_append_of_le_length (by omega), flat_cons, ← tag_app, List.take_append_drop]
    · rw [if_neg hs]
      have g3 : sd 3 (newH 0 0).es = [] := rfl
      have hAl : A.length = lenO s l + (sd 3 r).length := by rw [hA, List.length_append, pno]
      have ih := hg_wl (c := c) A r (lenO s l) (lenN s l) 0 0 (putH s l (newH 0 0)) (by rw [putH_oa]; rfl) (po l _ rfl) (Nat.le_refl _) (by rw [pes, g3, List.nil_append, pno]; omega) (by rw [pes, g3, List.nil_append, List.drop_zero, hA]) (by rw [pes, g3, List.nil_append, pno]; omega)
      refine ⟨?_, ih.2⟩
      rw [ih.1, putH_es, flat_cons]
      simp [tag, newH, flat]
end Go.Proofs.Ytigghcmbdnidnaa.H
