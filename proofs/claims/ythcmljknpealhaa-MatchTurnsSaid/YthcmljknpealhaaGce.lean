/-
  Pairs of places, in plain words: which ones are a match, the other way round, where a place is, behind two of them, and the gaps.
  The contracts of match's To, Invert and Right, and of the reference's To and Right.
  The contract of the reference's Once.
  The contracts of match's ByIDs, and of the reference's ByIDs and Compose.
-/
import Derived.Test.YthcmljknpealhaaGcd
namespace Go.Proofs.Ythcmljknpealhaa.Mt
open Go.RowKit
open N (oU oI onc oU_hit oU_miss oU_len)

abbrev Pr := Int × Int
/-- Pairs that rise on both sides, above a and b, and below n and m. -/
def rt (n m : Int) : Int → Int → List Pr → Bool
  | _, _, [] => true
  | a, b, p :: r => decide (a < p.1) && decide (p.1 < n) && decide (b < p.2) && decide (p.2 < m) && rt n m p.1 p.2 r
def right (ps : List Pr) (n m : Int) : Bool := rt n m (-1) (-1) ps
def inv (ps : List Pr) : List Pr := ps.map fun p => (p.2, p.1)
def fnd : List Pr → Int → Option Int
  | [], _ => none
  | p :: r, i => if p.1 = i then some p.2 else fnd r i
def comp (p q : List Pr) : List Pr := p.filterMap fun z => (fnd q z.2).map fun k => (z.1, k)
def rise : Int → List Pr → List Pr
  | _, [] => []
  | t, p :: r => if t < p.2 then p :: rise p.2 r else rise t r
def ids (x y : List Int) : List Pr := rise (-1) (oU x y x.length)
structure Gp where
  a : Int
  an : Int
  b : Int
  bn : Int
def keep (g : Gp) : List Gp := if 0 < g.an ∨ 0 < g.bn then [g] else []
def gp (n m : Int) : Int → Int → List Pr → List Gp
  | a, b, [] => keep ⟨a, n - a, b, m - b⟩
  | a, b, p :: r => keep ⟨a, p.1 - a, b, p.2 - b⟩ ++ gp n m (p.1 + 1) (p.2 + 1) r
def gaps (ps : List Pr) (n m : Int) : List Gp := if 0 ≤ n ∧ 0 ≤ m ∧ right ps n m = true then gp n m 0 0 ps else []

/-! Right pairs rise. -/
theorem rt_iff (n m : Int) : ∀ (ps : List Pr) (a b : Int), rt n m a b ps = true ↔ (∀ p ∈ ps, a < p.1 ∧ p.1 < n ∧ b < p.2 ∧ p.2 < m) ∧ ps.Pairwise fun p q => p.1 < q.1 ∧ p.2 < q.2
  | [], a, b => by simp [rt]
  | p :: r, a, b => by
    have ih := rt_iff n m r p.1 p.2
    rw [rt, Bool.and_eq_true, ih, List.pairwise_cons]
    simp only [Bool.and_eq_true, decide_eq_true_eq, List.forall_mem_cons]
    constructor
    · rintro ⟨⟨⟨⟨h1, h2⟩, h3⟩, h4⟩, h5, h6⟩
      exact ⟨⟨⟨h1, h2, h3, h4⟩, fun q hq => ⟨Int.lt_trans h1 (h5 q hq).1, (h5 q hq).2.1, Int.lt_trans h3 (h5 q hq).2.2.1, (h5 q hq).2.2.2⟩⟩, fun q hq => ⟨(h5 q hq).1, (h5 q hq).2.2.1⟩, h6⟩
    · rintro ⟨⟨⟨h1, h2, h3, h4⟩, h5⟩, h6, h7⟩
      exact ⟨⟨⟨⟨h1, h2⟩, h3⟩, h4⟩, fun q hq => ⟨(h6 q hq).1, (h5 q hq).2.1, (h6 q hq).2, (h5 q hq).2.2.2⟩, h7⟩
structure Rt (ps : List Pr) (n m : Int) : Prop where
  all : ∀ p ∈ ps, 0 ≤ p.1 ∧ p.1 < n ∧ 0 ≤ p.2 ∧ p.2 < m
  up : ps.Pairwise fun p q => p.1 < q.1 ∧ p.2 < q.2
theorem right_iff {ps : List Pr} {n m : Int} : right ps n m = true ↔ Rt ps n m := by
  rw [right, rt_iff]
  constructor
  · rintro ⟨h1, h2⟩
    exact ⟨fun p hp => by have := h1 p hp; omega, h2⟩
  · rintro ⟨h1, h2⟩
    exact ⟨fun p hp => by have := h1 p hp; omega, h2⟩
theorem Rt.inv {ps : List Pr} {n m : Int} (h : Rt ps n m) : Rt (inv ps) m n := by
  refine ⟨fun p hp => ?_, ?_⟩
  · obtain ⟨q, hq, rfl⟩ := List.mem_map.1 hp
    have := h.all q hq
    simp only
    omega
  · exact List.Pairwise.map _ (fun _ _ g => ⟨g.2, g.1⟩) h.up
theorem fnd_mem : ∀ {ps : List Pr} {i k : Int}, fnd ps i = some k → (i, k) ∈ ps
  | [], _, _, h => by cases h
  | p :: r, i, k, h => by
    unfold fnd at h
    split at h
    · rename_i e
      injection h with h
      subst e h
      exact List.mem_cons_self
    · exact List.mem_cons_of_mem _ (fnd_mem h)
theorem fnd_of : ∀ {ps : List Pr}, ps.Pairwise (fun p q => p.1 < q.1 ∧ p.2 < q.2) → ∀ {i k : Int}, (i, k) ∈ ps → fnd ps i = some k
  | [], _, _, _, h => by cases h
  | p :: r, hp, i, k, h => by
    rw [List.pairwise_cons] at hp
    unfold fnd
    rcases List.mem_cons.1 h with e | h
    · subst e; simp
    · have := hp.1 _ h
      rw [if_neg (by omega)]
      exact fnd_of hp.2 h
theorem Rt.fnd {ps : List Pr} {n m : Int} (h : Rt ps n m) {i k : Int} : fnd ps i = some k ↔ (i, k) ∈ ps := ⟨fnd_mem, fnd_of h.up⟩
theorem Rt.at {ps : List Pr} {n m : Int} (h : Rt ps n m) {j : Nat} (hj : j < ps.length) : Mt.fnd ps ps[j].1 = some ps[j].2 := h.fnd.2 (List.getElem_mem hj)
theorem Rt.back {ps : List Pr} {n m : Int} (h : Rt ps n m) {j : Nat} (hj : j < ps.length) : Mt.fnd (Mt.inv ps) ps[j].2 = some ps[j].1 := h.inv.fnd.2 (List.mem_map.2 ⟨ps[j], List.getElem_mem hj, rfl⟩)
/-! Behind two matches. -/
theorem comp_mem {p q : List Pr} {m l : Int} (hq : Rt q m l) {x z : Int} : (x, z) ∈ comp p q ↔ ∃ y, (x, y) ∈ p ∧ (y, z) ∈ q := by
  unfold comp
  rw [List.mem_filterMap]
  constructor
  · rintro ⟨⟨a, y⟩, h1, h2⟩
    simp only [Option.map_eq_some_iff, Prod.mk.injEq] at h2
    obtain ⟨k, h3, rfl, rfl⟩ := h2
    exact ⟨y, h1, fnd_mem h3⟩
  · rintro ⟨y, h1, h2⟩
    exact ⟨(x, y), h1, by simp [hq.fnd.2 h2]⟩
theorem comp_up : ∀ {p q : List Pr} {m l : Int}, p.Pairwise (fun p q => p.1 < q.1 ∧ p.2 < q.2) → Rt q m l → (comp p q).Pairwise (fun p q => p.1 < q.1 ∧ p.2 < q.2)
  | [], _, _, _, _, _ => by simp [comp]
  | z :: r, q, m, l, hp, hq => by
    rw [List.pairwise_cons] at hp
    have ih := comp_up hp.2 hq
    unfold comp
    rw [List.filterMap_cons]
    cases hf : Mt.fnd q z.2 with
    | none => exact ih
    | some k =>
      simp only [Option.map_some]
      rw [List.pairwise_cons]
      refine ⟨fun t ht => ?_, ih⟩
      obtain ⟨x, c⟩ := t
      obtain ⟨y, h1, h2⟩ := (comp_mem hq).1 ht
      have h3 := hp.1 _ h1
      have h4 := fnd_mem hf
      refine ⟨h3.1, ?_⟩
      have hup := hq.up
      rw [List.pairwise_iff_getElem] at hup
      obtain ⟨i, hi, ei⟩ := List.mem_iff_getElem.1 h4
      obtain ⟨j, hj, ej⟩ := List.mem_iff_getElem.1 h2
      rcases Nat.lt_trichotomy i j with h | h | h
      · have := hup i j hi hj h; rw [ei, ej] at this; exact this.2
      · subst h; rw [ei] at ej; simp only [Prod.mk.injEq] at ej; simp only at h3; omega
      · have := hup j i hj hi h; rw [ei, ej] at this; simp only at this h3; omega
theorem Rt.comp {p q : List Pr} {n m l : Int} (hp : Rt p n m) (hq : Rt q m l) : Rt (comp p q) n l := by
  refine ⟨fun t ht => ?_, comp_up hp.up hq⟩
  obtain ⟨x, z⟩ := t
  obtain ⟨y, h1, h2⟩ := (comp_mem hq).1 ht
  have := hp.all _ h1
  have := hq.all _ h2
  simp only at *
  omega
/-- Rows that rise and have the same pairs are the same. -/
theorem same_of : ∀ {a b : List Pr}, a.Pairwise (fun p q => p.1 < q.1 ∧ p.2 < q.2) → b.Pairwise (fun p q => p.1 < q.1 ∧ p.2 < q.2) → (∀ z, z ∈ a ↔ z ∈ b) → a = b
  | [], [], _, _, _ => rfl
  | [], y :: s, _, _, h => by have := (h y).2 List.mem_cons_self; cases this
  | x :: r, [], _, _, h => by have := (h x).1 List.mem_cons_self; cases this
  | x :: r, y :: s, ha, hb, h => by
    rw [List.pairwise_cons] at ha hb
    have e : x = y := by
      rcases List.mem_cons.1 ((h x).1 List.mem_cons_self) with e | h1
      · exact e
      · rcases List.mem_cons.1 ((h y).2 List.mem_cons_self) with e | h2
        · exact e.symm
        · have := ha.1 _ h2; have := hb.1 _ h1; omega
    subst e
    rw [same_of ha.2 hb.2 fun z => ?_]
    constructor
    · intro hz
      rcases List.mem_cons.1 ((h z).1 (List.mem_cons_of_mem _ hz)) with e | h1
      · subst e; have := ha.1 _ hz; omega
      · exact h1
    · intro hz
      rcases List.mem_cons.1 ((h z).2 (List.mem_cons_of_mem _ hz)) with e | h1
      · subst e; have := hb.1 _ hz; omega
      · exact h1
theorem comp_comp {p q r : List Pr} {a b c d : Int} (hp : Rt p a b) (hq : Rt q b c) (hr : Rt r c d) : comp (comp p q) r = comp p (comp q r) := by
  refine same_of ((hp.comp hq).comp hr).up (hp.comp (hq.comp hr)).up fun z => ?_
  obtain ⟨x, t⟩ := z
  rw [comp_mem hr, comp_mem (hq.comp hr)]
  constructor
  · rintro ⟨y, h1, h2⟩
    obtain ⟨u, h3, h4⟩ := (comp_mem hq).1 h1
    exact ⟨u, h3, (comp_mem hr).2 ⟨y, h4, h2⟩⟩
  · rintro ⟨u, h3, h5⟩
    obtain ⟨y, h4, h2⟩ := (comp_mem hr).1 h5
    exact ⟨y, (comp_mem hq).2 ⟨u, h3, h4⟩, h2⟩
theorem inv_mem {p : List Pr} {x y : Int} : (x, y) ∈ inv p ↔ (y, x) ∈ p := by
  unfold inv
  rw [List.mem_map]
  constructor
  · rintro ⟨⟨a, b⟩, h, e⟩
    simp only [Prod.mk.injEq] at e
    obtain ⟨rfl, rfl⟩ := e
    exact h
  · intro h; exact ⟨(y, x), h, rfl⟩
theorem inv_comp {p q : List Pr} {a b c : Int} (hp : Rt p a b) (hq : Rt q b c) : inv (comp p q) = comp (inv q) (inv p) := by
  refine same_of (hp.comp hq).inv.up (hq.inv.comp hp.inv).up fun z => ?_
  obtain ⟨x, t⟩ := z
  rw [inv_mem, comp_mem hq, comp_mem hp.inv]
  constructor
  · rintro ⟨y, h1, h2⟩; exact ⟨y, inv_mem.2 h2, inv_mem.2 h1⟩
  · rintro ⟨y, h1, h2⟩; exact ⟨y, inv_mem.1 h2, inv_mem.1 h1⟩
/-! What is there once in both rows, as far as it rises. -/
theorem rise_mem : ∀ {l : List Pr} {t : Int} {p : Pr}, p ∈ rise t l → p ∈ l ∧ t < p.2
  | [], _, _, h => by cases h
  | q :: r, t, p, h => by
    unfold rise at h
    split at h
    · rcases List.mem_cons.1 h with e | h
      · subst e; exact ⟨List.mem_cons_self, by assumption⟩
      · have := rise_mem h; exact ⟨List.mem_cons_of_mem _ this.1, by omega⟩
    · have := rise_mem h; exact ⟨List.mem_cons_of_mem _ this.1, this.2⟩
theorem rise_up : ∀ {l : List Pr}, l.Pairwise (fun p q => p.1 < q.1) → ∀ t, (rise t l).Pairwise (fun p q => p.1 < q.1 ∧ p.2 < q.2)
  | [], _, _ => by simp [rise]
  | q :: r, h, t => by
    rw [List.pairwise_cons] at h
    unfold rise
    split
    · rw [List.pairwise_cons]
      exact ⟨fun p hp => ⟨h.1 _ (rise_mem hp).1, (rise_mem hp).2⟩, rise_up h.2 _⟩
    · exact rise_up h.2 _
theorem oU_all (a b : List Int) : ∀ n, n ≤ a.length → (∀ z ∈ oU a b n, 0 ≤ z.1 ∧ z.1 < n ∧ 0 ≤ z.2 ∧ z.2 < b.length) ∧ (oU a b n).Pairwise (fun p q => p.1 < q.1)
  | 0, _ => by simp [oU]
  | n + 1, h => by
    have ih := oU_all a b n (by omega)
    by_cases hc : a.count a[n] = 1 ∧ b.count a[n] = 1
    · rw [oU_hit (by omega) hc.1 hc.2]
      have hm : a[n] ∈ b := List.count_pos_iff.1 (by omega)
      have hx := List.idxOf_lt_length_iff.2 hm
      refine ⟨fun z hz => ?_, ?_⟩
      · rcases List.mem_append.1 hz with hz | hz
        · have := ih.1 z hz; omega
        · rw [List.mem_singleton] at hz
          subst hz
          simp only
          omega
      · rw [List.pairwise_append]
        refine ⟨ih.2, by simp, fun x hx y hy => ?_⟩
        rw [List.mem_singleton] at hy
        subst hy
        have := ih.1 x hx
        simp only
        omega
    · rw [oU_miss (by omega) hc]
      exact ⟨fun z hz => by have := ih.1 z hz; omega, ih.2⟩
theorem ids_right (x y : List Int) : Rt (ids x y) x.length y.length := by
  have h := oU_all x y x.length (Nat.le_refl _)
  exact ⟨fun p hp => h.1 p (rise_mem hp).1, rise_up h.2 _⟩
theorem rise_len : ∀ (l : List Pr) (t : Int), (rise t l).length ≤ l.length
  | [], _ => Nat.le_refl _
  | q :: r, t => by
    unfold rise
    have := rise_len r q.2
    have := rise_len r t
    split <;> simp <;> omega
theorem ids_len (x y : List Int) : (ids x y).length ≤ x.length := Nat.le_trans (rise_len _ _) (oU_len x y x.length)
theorem comp_len (p q : List Pr) : (comp p q).length ≤ p.length := List.length_filterMap_le _ _
/-! Gaps the other way round. -/
def Gp.turn (g : Gp) : Gp := ⟨g.b, g.bn, g.a, g.an⟩
theorem keep_turn (g : Gp) : keep g.turn = (keep g).map Gp.turn := by
  unfold keep
  by_cases h : 0 < g.an ∨ 0 < g.bn
  · rw [if_pos h, if_pos (by simp only [Gp.turn]; omega)]; rfl
  · rw [if_neg h, if_neg (by simp only [Gp.turn]; omega)]; rfl
theorem gp_turn (n m : Int) : ∀ (ps : List Pr) (a b : Int), gp m n b a (inv ps) = (gp n m a b ps).map Gp.turn
  | [], a, b => keep_turn ⟨a, n - a, b, m - b⟩
  | p :: r, a, b => by
    rw [show inv (p :: r) = (p.2, p.1) :: inv r from rfl, gp, gp, List.map_append, gp_turn n m r (p.1 + 1) (p.2 + 1), ← keep_turn]
    rfl
theorem gaps_turn {ps : List Pr} {n m : Int} (h : Rt ps n m) : gaps (inv ps) m n = (gaps ps n m).map Gp.turn := by
  unfold gaps
  have h1 : right ps n m = true := right_iff.2 h
  have h2 : right (inv ps) m n = true := right_iff.2 h.inv
  by_cases hn : 0 ≤ n ∧ 0 ≤ m
  · rw [if_pos ⟨hn.2, hn.1, h2⟩, if_pos ⟨hn.1, hn.2, h1⟩, gp_turn]
  · rw [if_neg (fun q => hn ⟨q.2.1, q.1⟩), if_neg (fun q => hn ⟨q.1, q.2.1⟩)]; rfl
theorem keep_len (g : Gp) : (keep g).length ≤ 1 := by unfold keep; split <;> simp
theorem gp_len (n m : Int) : ∀ (ps : List Pr) (a b : Int), (gp n m a b ps).length ≤ ps.length + 1
  | [], a, b => keep_len _
  | p :: r, a, b => by
    have := gp_len n m r (p.1 + 1) (p.2 + 1)
    have := keep_len ⟨a, p.1 - a, b, p.2 - b⟩
    rw [gp, List.length_append, List.length_cons]
    omega
theorem gaps_len (ps : List Pr) (n m : Int) : (gaps ps n m).length ≤ ps.length + 1 := by
  unfold gaps
  split
  · exact gp_len n m ps 0 0
  · simp
end Go.Proofs.Ythcmljknpealhaa.Mt

namespace Go.Proofs.Ythcmljknpealhaa.Mt
open Go.RowKit
open T
open N (PrIn PrIn.below prCells prCells_snoc pr_own PsEnd infoPair)
open V (drawn_below)
open I (alloc1 own_at own_below)

theorem fnd_at {ps : List Pr} {k : Nat} (hk : k < ps.length) (i : Int) : fnd (ps.drop k) i = if ps[k].1 = i then some ps[k].2 else fnd (ps.drop (k + 1)) i := by rw [List.drop_eq_getElem_cons hk, fnd]
def toV (o : Option Int) : Value := .tuple #[.int .i64 (o.getD 0), .bool o.isSome]
theorem inv_take {ps : List Pr} {k : Nat} (hk : k < ps.length) : inv (ps.take (k + 1)) = inv (ps.take k) ++ [(ps[k].2, ps[k].1)] := by
  unfold inv
  rw [List.take_succ_eq_append_getElem hk, List.map_append]; rfl
theorem inv_len (ps : List Pr) : (inv ps).length = ps.length := by simp [inv]

set_option maxRecDepth 100000 in
set_option maxHeartbeats 1000000 in
theorem to_any (A : Option Addr) (cap : Nat) (ps : List Pr) (i : Int) (w : World) (hA : PrIn w A ps) (hl : ps.length ≤ maxLen) :
    Calls Try.prog 17 #[.slice A ps.length cap, .int .i64 i] w fun e w' => e = .returned (toV (fnd ps i)) ∧ Below w.heap.size w w' := by
  have HA := Lib.hid hA
  unfold maxLen at hl
  clear hA
  go_enter Try.func17, Try.ntmps17
  go_wp2_with fail
  go_loopg [10] ps.length (fun q iv wx => ∃ k : Nat, k ≤ ps.length ∧ iv = .int .i64 k ∧ ps.length - k ≤ q ∧ Below w.heap.size w wx ∧ Hid (fnd ps i = fnd (ps.drop k) i))
  case atStart => exact ⟨0, Nat.zero_le _, rfl, by omega, Below.refl _ _, Lib.hid rfl⟩
  case round =>
    obtain ⟨k, hk, rfl, hm, hbr, HF⟩ := hrel
    by_cases hlt : k < ps.length
    · obtain ⟨bk, off, hAe, hbk, hI⟩ := HA.out (by omega)
      subst hAe
      obtain ⟨q0, q1⟩ := hI k hlt
      have c0 := (hbr.cell (p := ⟨bk, off + k * 2, none⟩) hbk).trans q0
      have c1 := (hbr.cell (p := ⟨bk, off + k * 2 + 1, none⟩) hbk).trans q1
      have HN := Lib.hid (fnd_at hlt i)
      have h0k : (0 : Int) ≤ (k : Int) := by omega
      have hki : (k : Int) < (ps.length : Int) := by omega
      have HBR := Lib.hid hbr
      have hbs := hbr.size
      clear hI q0 q1 hbr
      obtain ⟨p, hp⟩ : ∃ p, p = ps[k] := ⟨_, rfl⟩
      rw [← hp] at c0 c1 HN
      clear hp
      obtain ⟨p0, p1⟩ := p
      simp only at c0 c1
      by_cases he : p0 = i
      · subst he
        have HV := Lib.hid (show fnd ps p0 = some p1 from HF.out.trans (HN.out.trans (if_pos rfl)))
        clear HF HN
        go_wp2_with fail
        refine bodyPost_ret (v := .tuple #[.int .i64 p1, .bool true]) (by simp [results, Try.results17, go_sem]) rfl ⟨by rw [HV.out]; rfl, HBR.out.trans ((alloc1 _ _).mono hbs)⟩
      · have hb : (p0 == i) = false := beq_eq_false_iff_ne.2 he
        have HE := Lib.hid he
        clear he
        go_wp2_with fail
        go_roundg (ps.length - (k + 1))
        case rel => exact ⟨k + 1, by omega, by go_num, Nat.le_refl _, HBR.out.trans ((alloc1 _ _).mono hbs), Lib.hid (HF.out.trans (HN.out.trans (if_neg HE.out)))⟩
        case measure => omega
    · obtain rfl : k = ps.length := by omega
      have HV := Lib.hid (show fnd ps i = none by rw [HF.out, List.drop_length]; rfl)
      clear HF
      go_wp2_with fail
      refine bodyPost_ret (v := .tuple #[.int .i64 0, .bool false]) (by simp [results, Try.results17, go_sem]) rfl ⟨by rw [HV.out]; rfl, hbr⟩

set_option maxRecDepth 100000 in
set_option maxHeartbeats 1000000 in
theorem rto_any (A : Option Addr) (cap : Nat) (ps : List Pr) (i : Int) (w : World) (hA : PrIn w A ps) (hl : ps.length ≤ maxLen) :
    Calls Try.prog 19 #[.slice A ps.length cap, .int .i64 i] w fun e w' => e = .returned (toV (fnd ps i)) ∧ w' = w := by
  have HA := Lib.hid hA
  unfold maxLen at hl
  clear hA
  go_enter Try.func19, Try.ntmps19
  go_wp2_with fail
  go_loopg [6] ps.length (fun q iv wx => ∃ k : Nat, k ≤ ps.length ∧ iv = .int .i64 k ∧ ps.length - k ≤ q ∧ wx = w ∧ Hid (fnd ps i = fnd (ps.drop k) i))
  case atStart => exact ⟨0, Nat.zero_le _, rfl, by omega, rfl, Lib.hid rfl⟩
  case round =>
    obtain ⟨k, hk, rfl, hm, rfl, HF⟩ := hrel
    by_cases hlt : k < ps.length
    · obtain ⟨bk, off, hAe, hbk, hI⟩ := HA.out (by omega)
      subst hAe
      obtain ⟨c0, c1⟩ := hI k hlt
      have HN := Lib.hid (fnd_at hlt i)
      have h0k : (0 : Int) ≤ (k : Int) := by omega
      have hki : (k : Int) < (ps.length : Int) := by omega
      clear hI
      obtain ⟨p, hp⟩ : ∃ p, p = ps[k] := ⟨_, rfl⟩
      rw [← hp] at c0 c1 HN
      clear hp
      obtain ⟨p0, p1⟩ := p
      simp only at c0 c1
      by_cases he : p0 = i
      · subst he
        have HV := Lib.hid (show fnd ps p0 = some p1 from HF.out.trans (HN.out.trans (if_pos rfl)))
        clear HF HN
        go_wp2_with fail
        refine bodyPost_ret (v := .tuple #[.int .i64 p1, .bool true]) (by simp [results, Try.results19, go_sem]) rfl ⟨by rw [HV.out]; rfl, rfl⟩
      · have hb : (p0 == i) = false := beq_eq_false_iff_ne.2 he
        have HE := Lib.hid he
        clear he
        go_wp2_with fail
        go_roundg (ps.length - (k + 1))
        case rel => exact ⟨k + 1, by omega, by go_num, Nat.le_refl _, rfl, Lib.hid (HF.out.trans (HN.out.trans (if_neg HE.out)))⟩
        case measure => omega
    · obtain rfl : k = ps.length := by omega
      have HV := Lib.hid (show fnd ps i = none by rw [HF.out, List.drop_length]; rfl)
      clear HF
      go_wp2_with fail
      refine bodyPost_ret (v := .tuple #[.int .i64 0, .bool false]) (by simp [results, Try.results19, go_sem]) rfl ⟨by rw [HV.out]; rfl, rfl⟩

set_option maxRecDepth 100000 in
set_option maxHeartbeats 4000000 in
theorem inv_any (A : Option Addr) (c : Nat) (a : List Pr) (w : World) (hA : PrIn w A a) (hl : a.length ≤ 1000000) :
    Calls Try.prog 15 #[.slice A a.length c] w (PsEnd w (inv a)) := by
  obtain ⟨i0, hi0, hz0, hz1, hz2⟩ := info_parts infoPair
  have HA := Lib.hid hA
  clear hA
  go_enter Try.func15, Try.ntmps15
  go_wp2_with fail
  go_loopg [3, 8] a.length (fun m v i wr => ∃ (k : Nat) (ps : List (Int × Int)), k ≤ a.length ∧ i = .int .i64 k ∧ a.length - k ≤ m ∧ wr.ownsRow w.heap.size 40 2 v ps.length (prCells ps) ∧ Below w.heap.size w wr ∧ ps.length = k ∧ Hid (ps = inv (a.take k)))
  case atStart => exact ⟨0, [], Nat.zero_le _, rfl, by omega, World.ownsRow_nil _ _ _ _, Below.refl _ _, rfl, Lib.hid rfl⟩
  case round =>
    obtain ⟨k, ps, hk, rfl, hmm, hown, hbr, hpl, HP⟩ := hrel
    by_cases hlt : k < a.length
    · obtain ⟨bk, off, hAe, hbk, hI⟩ := HA.out (by omega)
      subst hAe
      obtain ⟨q0, q1⟩ := hI k hlt
      have c0 := (hbr.cell (p := ⟨bk, off + k * 2, none⟩) hbk).trans q0
      have c1 := (hbr.cell (p := ⟨bk, off + k * 2 + 1, none⟩) hbk).trans q1
      have HN := Lib.hid (inv_take hlt)
      have h0k : (0 : Int) ≤ (k : Int) := by omega
      have hki : (k : Int) < (a.length : Int) := by omega
      have hsb := hbr.size
      obtain ⟨RA, rcap, rfl, -, -⟩ := own_form hown
      have HOW := Lib.hid hown
      have HBR := Lib.hid hbr
      have HPL := Lib.hid hpl
      have hple : ps.length ≤ 1000000 := by omega
      clear hI q0 q1 hown hbr hpl
      obtain ⟨p, hp⟩ : ∃ p, p = a[k] := ⟨_, rfl⟩
      rw [← hp] at c0 c1 HN
      clear hp
      obtain ⟨p0, p1⟩ := p
      simp only at c0 c1
      go_wp2_with (at_builtin; refine wpList_append_own _ rfl (.tmp 12) (.tmp 18) 22 rfl w.heap.size 40 i0 _ 2 16 Try.underlying22 hi0 hz0 hz1 hz2 rfl (by decide) _ ps.length (prCells ps) rfl ((HOW.out.alloc _).alloc _) ⟨_, 0, none⟩ 1 1 [.int .i64 p1, .int .i64 p0] rfl rfl (World.news_of_block (V.alloc_at _ (by first | rfl | simp))) (by intro u hu; simp at hu; rcases hu with rfl | rfl <;> rfl) (by unfold maxLen; omega) (by omega) (by first | omega | (simp; done) | (simp; omega)) ?_; intro v' w4 hown4 hg4 _)
      have hb4 := ((HBR.out.trans ((alloc1 _ _).mono hsb)).trans ((alloc1 _ _).mono (by simp; omega))).grown hg4 (by first | omega | (simp; omega)) (own_base HOW.out)
      have ho4 : w4.ownsRow w.heap.size 40 2 v' (ps ++ [(p1, p0)]).length (prCells (ps ++ [(p1, p0)])) := by rw [prCells_snoc]; simpa using hown4
      clear hown4 hg4
      go_wp2_with fail
      go_roundg (a.length - (k + 1))
      case rel => exact ⟨k + 1, ps ++ [(p1, p0)], by omega, by go_num, Nat.le_refl _, ho4, hb4, by simp [HPL.out], Lib.hid (by rw [HN.out, HP.out])⟩
      case measure => omega
    · obtain rfl : k = a.length := by omega
      have hp := HP.out
      rw [List.take_length] at hp
      subst hp
      obtain ⟨RA, rcap, rfl, -, -⟩ := own_form hown
      go_wp2_with fail
      go_ret
      exact ⟨RA, rcap, rfl, hown, hbr⟩
end Go.Proofs.Ythcmljknpealhaa.Mt

namespace Go.Proofs.Ythcmljknpealhaa.N
set_option linter.unusedVariables false
set_option linter.unusedSimpArgs false
open Go.RowKit
open T
open V (grown_of IntsIn numCells numCells_snoc ints_own drawn_below)
open I (alloc1 own_at own_below)

set_option maxRecDepth 100000 in
set_option maxHeartbeats 4000000 in
theorem ronce_any (A B : Option Addr) (c c' : Nat) (a b : List Int) (w : World) (hA : IntsIn w A a) (hB : IntsIn w B b) (ha : a.length ≤ 60) (hb : b.length ≤ 60) :
    Calls Try.prog 21 #[.slice A a.length c, .slice B b.length c'] w (PsEnd w (oU a b a.length)) := by
  obtain ⟨i0, hi0, hz0, hz1, hz2⟩ := info_parts infoPair
  have HA := Lib.hid hA
  have HB := Lib.hid hB
  clear hA hB
  obtain ⟨W0, hW0⟩ : ∃ W : World, W = w.alloc (.cells #[] 40) := ⟨_, rfl⟩
  have HB0 := Lib.hid (show Below w.heap.size w W0 by rw [hW0]; exact alloc1 _ _)
  have HO0 := Lib.hid (show W0.ownsRow w.heap.size 40 2 (.slice (some ⟨w.heap.size, 0, none⟩) 0 0) 0 [] by rw [hW0]; exact World.ownsRow_made w #[] 0 (Nat.le_refl _) (Nat.zero_le _) rfl)
  go_enter Try.func21, Try.ntmps21
  go_wp2_with fail
  rw [← hW0]
  clear hW0
  go_loopg [5, 6] a.length (fun q v iv wx => ∃ (i : Nat) (ps : List (Int × Int)), i ≤ a.length ∧ iv = .int .i64 i ∧ a.length - i ≤ q ∧ wx.ownsRow w.heap.size 40 2 v ps.length (prCells ps) ∧ Below w.heap.size w wx ∧ Hid (ps = oU a b i))
  case atStart => exact ⟨0, [], Nat.zero_le _, rfl, by omega, HO0.out, HB0.out, Lib.hid rfl⟩
  case round =>
    obtain ⟨i, ps, hi, rfl, hmm, hown, hbr, HP⟩ := hrel
    by_cases hlt : i < a.length
    · obtain ⟨b1, o1, hAe, hb1, hI1⟩ := HA.out (by omega)
      subst hAe
      have hpl := oU_len a b i
      rw [← HP.out] at hpl
      have E0 := Lib.hid (hI1 i hlt)
      have h0i : (0 : Int) ≤ (i : Int) := by omega
      have hii : (i : Int) < (a.length : Int) := by omega
      have HOW := Lib.hid hown
      have HBR := Lib.hid hbr
      clear hI1 hown hbr
      go_wp2_with fail
      go_loopg [5, 7] b.length (fun q v kv wx => ∃ (k : Nat) (qs : List (Int × Int)), k ≤ b.length ∧ kv = .int .i64 k ∧ b.length - k ≤ q ∧ wx.ownsRow w.heap.size 40 2 v qs.length (prCells qs) ∧ Below w.heap.size w wx ∧ Hid (qs = oU a b i ++ oI a b i k))
      case atStart => exact ⟨0, ps, Nat.zero_le _, rfl, by omega, HOW.out, HBR.out, Lib.hid (by rw [HP.out]; simp [oI, onc])⟩
      case round =>
        clear HOW HBR
        obtain ⟨k, qs, hk, rfl, hkm, hown, hbr, HQ⟩ := hrel
        by_cases hkl : k < b.length
        · obtain ⟨b2, o2, hBe, hb2, hI2⟩ := HB.out (by omega)
          subst hBe
          have c0 := (hbr.cell (p := ⟨b1, o1 + i, none⟩) hb1).trans E0.out
          have c1 := (hbr.cell (p := ⟨b2, o2 + k, none⟩) hb2).trans (hI2 k hkl)
          have HHIT := Lib.hid (fun (e : a[i] = b[k]) h1 h2 => oI_hit hlt hkl e h1 h2)
          have HMISS := Lib.hid (fun h => oI_miss (a := a) (b := b) hlt hkl h)
          have hql : qs.length ≤ i + 1 := by
            rw [HQ.out, List.length_append]
            have := oU_len a b i
            have := oI_len a b i k
            omega
          have h0k : (0 : Int) ≤ (k : Int) := by omega
          have hki : (k : Int) < (b.length : Int) := by omega
          have hsb := hbr.size
          have HBD := Lib.hid (fun (q : Nat) => (hbr.trans ((drawn_below wr q).mono hsb) : Below w.heap.size w (wr.drewN q)))
          have HCA := Lib.hid (fun (q : Nat) => rcount_any (some ⟨b1, o1, none⟩) c a a[i] (wr.drewN q) (HA.out.below (HBD.out q)) (by omega))
          have HCB := Lib.hid (fun (q : Nat) => rcount_any (some ⟨b2, o2, none⟩) c' b a[i] (wr.drewN q) (HB.out.below (HBD.out q)) (by omega))
          obtain ⟨RA, rcap, rfl, -, -⟩ := own_form hown
          have HOW := Lib.hid hown
          have HBR := Lib.hid hbr
          clear hI2 hown hbr
          obtain ⟨x, hx⟩ : ∃ x, x = a[i] := ⟨_, rfl⟩
          obtain ⟨y, hy⟩ : ∃ y, y = b[k] := ⟨_, rfl⟩
          rw [← hx] at c0 HHIT HMISS HCA HCB
          rw [← hy] at c1 HHIT HMISS
          obtain ⟨ca, hca⟩ : ∃ n, n = a.count x := ⟨_, rfl⟩
          obtain ⟨cb, hcb⟩ : ∃ n, n = b.count x := ⟨_, rfl⟩
          rw [← hca] at HHIT HMISS HCA
          rw [← hcb] at HHIT HMISS HCB
          clear hx hy hca hcb
          by_cases hxy : x = y
          · by_cases hc1 : ca = 1
            · by_cases hc2 : cb = 1
              · have HN := Lib.hid (HHIT.out hxy hc1 hc2)
                subst hxy hc1 hc2
                clear HHIT HMISS
                go_wp2_with fail
                go_quiet ((go_at_call 26; first | with_reducible exact Calls.quiet_of_same (HCA.out _) | with_reducible exact Calls.quiet_of_same (HCB.out _)))
                go_wp2_with (at_builtin; refine wpList_append_own _ rfl (.tmp 48) (.tmp 52) 22 rfl w.heap.size 40 i0 _ 2 16 Try.underlying22 hi0 hz0 hz1 hz2 rfl (by decide) _ qs.length (prCells qs) rfl ((own_below HOW.out (drawn_below wr _)).alloc _) ⟨_, 0, none⟩ 1 1 [.int .i64 i, .int .i64 k] rfl rfl (World.news_of_block (V.alloc_at _ (by first | rfl | simp))) (by intro u hu; simp at hu; rcases hu with rfl | rfl <;> rfl) (by unfold maxLen; omega) (by omega) (by first | omega | (simp; done) | (simp; omega)) ?_; intro v' w4 hown4 hg4 _)
                have hb4 := ((HBD.out _).trans ((alloc1 _ _).mono (HBD.out _).size)).grown hg4 (by first | omega | (simp; omega)) (own_base HOW.out)
                have ho4 : w4.ownsRow w.heap.size 40 2 v' (qs ++ [((i : Int), (k : Int))]).length (prCells (qs ++ [((i : Int), (k : Int))])) := by rw [prCells_snoc]; simpa using hown4
                clear hown4 hg4
                go_wp2_with fail
                go_roundg (b.length - (k + 1))
                case rel => exact ⟨k + 1, qs ++ [((i : Int), (k : Int))], by omega, by go_num, Nat.le_refl _, ho4, hb4, Lib.hid (by rw [HN.out, HQ.out, List.append_assoc])⟩
                case measure => omega
              · have HN := Lib.hid (HMISS.out (fun h => hc2 h.2.2))
                have hcb2 : ((cb : Int) == 1) = false := by simp; omega
                subst hxy hc1
                clear HHIT HMISS hc2
                go_wp2_with fail
                go_quiet ((go_at_call 26; first | with_reducible exact Calls.quiet_of_same (HCA.out _) | with_reducible exact Calls.quiet_of_same (HCB.out _)))
                go_wp2_with fail
                go_roundg (b.length - (k + 1))
                case rel => exact ⟨k + 1, qs, by omega, by go_num, Nat.le_refl _, own_below HOW.out (drawn_below wr _), HBD.out _, Lib.hid (by rw [HN.out, HQ.out])⟩
                case measure => omega
            · have HN := Lib.hid (HMISS.out (fun h => hc1 h.2.1))
              have hca2 : ((ca : Int) == 1) = false := by simp; omega
              subst hxy
              clear HHIT HMISS hc1
              go_wp2_with fail
              go_quiet ((go_at_call 26; first | with_reducible exact Calls.quiet_of_same (HCA.out _) | with_reducible exact Calls.quiet_of_same (HCB.out _)))
              go_wp2_with fail
              go_roundg (b.length - (k + 1))
              case rel => exact ⟨k + 1, qs, by omega, by go_num, Nat.le_refl _, own_below HOW.out (drawn_below wr _), HBD.out _, Lib.hid (by rw [HN.out, HQ.out])⟩
              case measure => omega
          · have HN := Lib.hid (HMISS.out (fun h => hxy h.1))
            have hxb : (x == y) = false := beq_eq_false_iff_ne.2 hxy
            clear HHIT HMISS hxy
            go_wp2_with fail
            go_quiet ((go_at_call 26; first | with_reducible exact Calls.quiet_of_same (HCA.out _) | with_reducible exact Calls.quiet_of_same (HCB.out _)))
            go_wp2_with fail
            go_roundg (b.length - (k + 1))
            case rel => exact ⟨k + 1, qs, by omega, by go_num, Nat.le_refl _, own_below HOW.out (drawn_below wr _), HBD.out _, Lib.hid (by rw [HN.out, HQ.out])⟩
            case measure => omega
        · obtain rfl : k = b.length := by omega
          go_wp2_with fail
          go_roundg (a.length - (i + 1))
          case rel => exact ⟨i + 1, qs, by omega, by go_num, Nat.le_refl _, hown, hbr, Lib.hid (by rw [HQ.out]; rfl)⟩
          case measure => omega
    · obtain rfl : i = a.length := by omega
      have hp := HP.out
      subst hp
      obtain ⟨RA, rcap, rfl, -, -⟩ := own_form hown
      go_wp2_with fail
      go_ret
      exact ⟨RA, rcap, rfl, hown, hbr⟩
end Go.Proofs.Ythcmljknpealhaa.N

namespace Go.Proofs.Ythcmljknpealhaa.Mt
open Go.RowKit
open T
open N (oU PrIn PrIn.below prCells prCells_snoc pr_own PsEnd infoPair once_any ronce_any)
open V (drawn_below IntsIn)
open I (alloc1 own_at own_below)

theorem rise_at {ps : List Pr} {k : Nat} (hk : k < ps.length) (t : Int) : rise t (ps.drop k) = if t < ps[k].2 then ps[k] :: rise ps[k].2 (ps.drop (k + 1)) else rise t (ps.drop (k + 1)) := by rw [List.drop_eq_getElem_cons hk, rise]

theorem kept_box {wr w4 : World} {p0 p1 : Int} {o : Obj} {row : Option Nat} (hg : ((wr.alloc (.cells #[.int .i64 p0, .int .i64 p1] 40)).alloc o).grownBy w4 row) (hr : ∀ b, row = some b → b < wr.heap.size) : w4.cell? ⟨wr.heap.size, 1, none⟩ = some (.int .i64 p1) := by
  have h5 : ((wr.alloc (.cells #[.int .i64 p0, .int .i64 p1] 40)).alloc o).heap[wr.heap.size]? = some (.cells #[.int .i64 p0, .int .i64 p1] 40 (0, 0)) := (Below.heap_alloc _ _ _ (by simp)).trans (heap_alloc_new wr _)
  have h6 := (hg.block wr.heap.size (by simp; omega) (fun e => Nat.lt_irrefl _ (hr _ e.symm))).trans h5
  exact L.blk_cell h6 1
set_option maxRecDepth 100000 in
set_option maxHeartbeats 4000000 in
theorem ids_any (A B : Option Addr) (c c' : Nat) (a b : List Int) (w : World) (hA : IntsIn w A a) (hB : IntsIn w B b) (ha : a.length ≤ 60) (hb : b.length ≤ 60)
    (hwa : ∀ z ∈ a, -9223372036854775808 ≤ z ∧ z ≤ 9223372036854775807) (hwb : ∀ z ∈ b, -9223372036854775808 ≤ z ∧ z ≤ 9223372036854775807) :
    Calls Try.prog 11 #[.slice A a.length c, .slice B b.length c'] w (PsEnd w (ids a b)) := by
  obtain ⟨i0, hi0, hz0, hz1, hz2⟩ := info_parts infoPair
  have HON := Lib.hid (once_any A B c c' a b w hA hB ha hb hwa hwb)
  have hul := N.oU_len a b a.length
  have HID := Lib.hid (show ids a b = rise (-1) (oU a b a.length) from rfl)
  obtain ⟨us, hus⟩ : ∃ us, us = oU a b a.length := ⟨_, rfl⟩
  rw [← hus] at HON HID hul
  clear hus hA hB hwa hwb
  go_enter Try.func11, Try.ntmps11
  go_wp2_with fail
  refine HON.out.mono ?_
  rintro e w1 ⟨U, uc, rfl, hu, hb1⟩
  have HU := Lib.hid (pr_own hu)
  have HB1 := Lib.hid hb1
  clear hu hb1 HON
  go_wp2_with fail
  go_loopg [5, 6, 13] us.length (fun m v tv i wr => ∃ (k : Nat) (t : Int) (ps : List Pr), k ≤ us.length ∧ i = .int .i64 k ∧ tv = .int .i64 t ∧ us.length - k ≤ m ∧ wr.ownsRow w1.heap.size 40 2 v ps.length (prCells ps) ∧ Below w1.heap.size w1 wr ∧ ps.length ≤ k ∧ Hid (ids a b = ps ++ rise t (us.drop k)))
  case atStart => exact ⟨0, -1, [], Nat.zero_le _, rfl, rfl, by omega, World.ownsRow_nil _ _ _ _, Below.refl _ _, Nat.le_refl _, HID⟩
  case round =>
    obtain ⟨k, t, ps, hk, rfl, rfl, hmm, hown, hbr, hpl, HP⟩ := hrel
    by_cases hlt : k < us.length
    · obtain ⟨bk, off, hAe, hbk, hI⟩ := HU.out (by omega)
      subst hAe
      obtain ⟨q0, q1⟩ := hI k hlt
      have c0 := (hbr.cell (p := ⟨bk, off + k * 2, none⟩) hbk).trans q0
      have c1 := (hbr.cell (p := ⟨bk, off + k * 2 + 1, none⟩) hbk).trans q1
      have HN := Lib.hid (rise_at hlt t)
      have h0k : (0 : Int) ≤ (k : Int) := by omega
      have hki : (k : Int) < (us.length : Int) := by omega
      have hsb := hbr.size
      obtain ⟨RA, rcap, rfl, -, -⟩ := own_form hown
      have HOW := Lib.hid hown
      have HBR := Lib.hid hbr
      clear hI q0 q1 hown hbr
      obtain ⟨p, hp⟩ : ∃ p, p = us[k] := ⟨_, rfl⟩
      rw [← hp] at c0 c1 HN
      clear hp
      obtain ⟨p0, p1⟩ := p
      simp only at c0 c1
      by_cases ht : t < p1
      · have HX := Lib.hid (HN.out.trans (if_pos ht))
        clear HN
        go_wp2_with (at_builtin; refine wpList_append_own _ rfl (.tmp 21) (.tmp 23) 22 rfl w1.heap.size 40 i0 _ 2 16 Try.underlying22 hi0 hz0 hz1 hz2 rfl (by decide) _ ps.length (prCells ps) rfl ((HOW.out.alloc _).alloc _) ⟨_, 0, none⟩ 1 1 [.int .i64 p0, .int .i64 p1] rfl rfl (World.news_of_block (V.alloc_at _ (by first | rfl | simp))) (by intro u hu; simp at hu; rcases hu with rfl | rfl <;> rfl) (by unfold maxLen; omega) (by omega) (by first | omega | (simp; done) | (simp; omega)) ?_; intro v' w4 hown4 hg4 _; have y1 := kept_box hg4 (fun b e => N.own_lt2 HOW.out b e))
        have hb4 := ((HBR.out.trans ((alloc1 _ _).mono hsb)).trans ((alloc1 _ _).mono (by simp; omega))).grown hg4 (by first | omega | (simp; omega)) (own_base HOW.out)
        have ho4 : w4.ownsRow w1.heap.size 40 2 v' (ps ++ [(p0, p1)]).length (prCells (ps ++ [(p0, p1)])) := by rw [prCells_snoc]; simpa using hown4
        clear hown4 hg4
        go_roundg (us.length - (k + 1))
        case rel => exact ⟨k + 1, p1, ps ++ [(p0, p1)], by omega, by go_num, rfl, Nat.le_refl _, ho4, hb4, by simp; omega, Lib.hid (by rw [HP.out, HX.out]; simp)⟩
        case measure => omega
      · have HX := Lib.hid (HN.out.trans (if_neg ht))
        clear HN
        go_wp2_with fail
        go_roundg (us.length - (k + 1))
        case rel => exact ⟨k + 1, t, ps, by omega, by go_num, rfl, Nat.le_refl _, own_below HOW.out (alloc1 _ _), HBR.out.trans ((alloc1 _ _).mono hsb), by omega, Lib.hid (by rw [HP.out, HX.out])⟩
        case measure => omega
    · obtain rfl : k = us.length := by omega
      have HE := Lib.hid (show ids a b = ps by rw [HP.out, List.drop_length]; simp [rise])
      obtain ⟨RA, rcap, rfl, -, -⟩ := own_form hown
      clear HP HID
      go_wp2_with fail
      go_ret
      exact ⟨RA, rcap, by rw [HE.out]; rfl, by rw [HE.out]; exact V.own_base_le hown HB1.out.size, HB1.out.trans (hbr.mono HB1.out.size)⟩
end Go.Proofs.Ythcmljknpealhaa.Mt
