/-
  Delta's text, in plain words: what was printed is read as it was; the reference's reader takes just what is printed.
  Parts while they are read; the contract of delta's put.
-/
import Derived.Test.YtlggoplffhdkhaaDoorGji
import Derived.Test.YtlggoplffhdkhaaDoorGjo
import Derived.Test.YtlggoplffhdkhaaDoorGjg
import Derived.Deep.DeepCutAuto
import Derived.Deep.AppendLies
import Derived.Deep.RegionHeldLaw
namespace Go.Proofs.YtlggoplffhdkhaaDoor.Dl
set_option linter.unusedVariables false
set_option linter.unusedSimpArgs false
open Go.RowKit
open I (It)

theorem dec_high (n : Int) : ∀ x ∈ P.decimal n, 33 ≤ x.toNat := by
  have hd : ∀ u : Nat, ∀ x ∈ Lib.decDigits u, 48 ≤ x.toNat := by
    intro u
    induction u using Nat.strongRecOn with
    | ind u ih =>
      intro x hx
      rw [Lib.decDigits] at hx
      split at hx
      · next h => rw [List.mem_singleton.1 hx, P.digit u h]; omega
      · next h =>
        rw [List.mem_append] at hx
        rcases hx with hx | hx
        · exact ih (u / 10) (by omega) x hx
        · rw [List.mem_singleton.1 hx, P.digit _ (by omega)]; omega
  intro x hx
  unfold P.decimal at hx
  split at hx
  · rw [List.mem_singleton.1 hx]; decide
  · have := hd _ x hx; omega
theorem join_high : ∀ xs : List (List UInt8), (∀ t ∈ xs, ∀ x ∈ t, 33 ≤ x.toNat) → ∀ x ∈ Lib.join xs [44], 33 ≤ x.toNat
  | [], _, x, hx => by simp [Lib.join] at hx
  | [t], h, x, hx => by
    have : Lib.join [t] [44] = t := by simp [Lib.join]
    rw [this] at hx
    exact h t (by simp) x hx
  | t :: u :: r, h, x, hx => by
    have e : Lib.join (t :: u :: r) [44] = t ++ (44 :: Lib.join (u :: r) [44]) := by
      unfold Lib.join; rw [List.intercalate_cons_cons]; simp
    rw [e, List.mem_append, List.mem_cons] at hx
    rcases hx with hx | rfl | hx
    · exact h t (by simp) x hx
    · decide
    · exact join_high (u :: r) (fun y hy => h y (by simp [hy])) x hx
theorem print_high (l : Int) (c : Nat) : ∀ x ∈ L.print l c, 33 ≤ x.toNat := by
  intro x hx
  unfold L.print at hx
  split at hx
  · exact dec_high l x hx
  · rw [List.mem_append, List.mem_append] at hx
    rcases hx with (hx | hx) | hx
    · exact dec_high l x hx
    · rw [List.mem_singleton.1 hx]; decide
    · unfold L.catsText at hx
      refine join_high _ (fun t ht => ?_) x hx
      obtain ⟨n, _, rfl⟩ := List.mem_map.1 ht
      exact dec_high _
theorem high_no {l : List UInt8} (h : ∀ x ∈ l, 33 ≤ x.toNat) (c : UInt8) (hc : c.toNat < 33) : c ∉ l := fun hm => by
  have := h c hm; omega
theorem split_at {t r : List UInt8} : ∀ (_ : (32 : UInt8) ∉ t), L.split 32 (t ++ 32 :: r) = some (t, r) := by
  induction t with
  | nil => intro _; simp [L.split]
  | cons c t ih =>
    intro h
    have hc : ¬ c = 32 := fun e => h (by simp [e])
    rw [List.cons_append, L.split, if_neg hc, ih (fun e => h (by simp [e]))]
    rfl
theorem split_back : ∀ (l : List UInt8) (p : List UInt8 × List UInt8), L.split 32 l = some p → l = p.1 ++ 32 :: p.2
  | [], p, h => by simp [L.split] at h
  | c :: l, p, h => by
    rw [L.split] at h
    by_cases hc : c = 32
    · rw [if_pos hc] at h
      injection h with h
      subst h
      rw [hc]; rfl
    · rw [if_neg hc] at h
      obtain ⟨q, hq, rfl⟩ := Option.map_eq_some_iff.1 h
      have := split_back l q hq
      rw [List.cons_append, ← this]
/-- What stands ahead of the first blank, and behind it. -/
def cA (l : List UInt8) : List UInt8 := match L.split 32 l with | some p => p.1 | none => l
def cB (l : List UInt8) : List UInt8 := match L.split 32 l with | some p => p.2 | none => []
theorem cA_at {t r : List UInt8} (h : (32 : UInt8) ∉ t) : cA (t ++ 32 :: r) = t := by unfold cA; rw [split_at h]
theorem cB_at {t r : List UInt8} (h : (32 : UInt8) ∉ t) : cB (t ++ 32 :: r) = r := by unfold cB; rw [split_at h]
def nm (l : List UInt8) : Int := match P.number l with | some n => (n : Int) | none => 0
theorem nm_dec {n : Int} (h0 : 0 ≤ n) (h1 : n ≤ 2147483647) : nm (P.decimal n) = n := by
  unfold nm
  rw [P.number_decimal n h0 h1]
  simp only
  omega
def lbA (l : List UInt8) : Int := match L.parse l with | some p => (p.1 : Int) | none => 0
def lbC (l : List UInt8) : Nat := match L.parse l with | some p => p.2 | none => 0
theorem parse_print {l : Int} {c : Nat} (h : L.rightB l = true) (hc : c < 18446744073709551616) : L.parse (L.print l c) = some (l.toNat, c) := by
  unfold L.rightB at h
  simp only [Bool.and_eq_true, decide_eq_true_eq] at h
  obtain ⟨n, rfl⟩ : ∃ n : Nat, l = n := ⟨l.toNat, by omega⟩
  rw [← L.refP_parse, L.refP_print n c (by omega) hc, Int.toNat_natCast]
theorem lb_print {l : Int} {c : Nat} (h : L.rightB l = true) (hc : c < 18446744073709551616) : lbA (L.print l c) = l ∧ lbC (L.print l c) = c := by
  unfold lbA lbC
  rw [parse_print h hc]
  unfold L.rightB at h
  simp only [Bool.and_eq_true, decide_eq_true_eq] at h
  exact ⟨by simp only; omega, rfl⟩
/-- An item, as it is read of what stands behind its word. -/
def rit (s : List UInt8) : It := ⟨nm (cA s), lbA (cA (cB s)), lbC (cA (cB s)), Lib.hasPrefix (cA (cB (cB s))) [97], cB (cB (cB s)), Lib.hasSuffix (cA (cB (cB s))) [98]⟩
def itb (x : It) : List UInt8 := P.decimal x.id ++ 32 :: (L.print x.lv x.ct ++ 32 :: (knd x ++ 32 :: x.tx))
theorem itln_itb (x : It) : itln x = [105, 116, 101, 109] ++ 32 :: itb x := itln_is x
theorem knd_high (x : It) : ∀ c ∈ knd x, 33 ≤ c.toNat := by
  intro c hc
  unfold knd at hc
  rw [List.mem_append] at hc
  rcases hc with hc | hc
  · split at hc <;> (rw [List.mem_singleton.1 hc]; decide)
  · split at hc
    · rw [List.mem_singleton.1 hc]; decide
    · cases hc
theorem knd_pre (x : It) : Lib.hasPrefix (knd x) [97] = x.an := by
  unfold knd
  cases x.an <;> cases x.ba <;> rfl
theorem knd_suf (x : It) : Lib.hasSuffix (knd x) [98] = x.ba := by
  unfold knd
  cases x.an <;> cases x.ba <;> rfl
theorem rit_itb {x : It} (h : cki x = 0) (hc : x.ct < 18446744073709551616) : rit (itb x) = x := by
  obtain ⟨h1, h2, h3, -, -⟩ := cki_zero h
  have n1 := high_no (dec_high x.id) 32 (by decide)
  have n2 := high_no (print_high x.lv x.ct) 32 (by decide)
  have n3 := high_no (knd_high x) 32 (by decide)
  obtain ⟨e1, e2⟩ := lb_print h3 hc
  unfold rit itb
  rw [cA_at n1, cB_at n1, cA_at n2, cB_at n2, cA_at n3, cB_at n3, nm_dec h1 h2, e1, e2, knd_pre, knd_suf]
def rcp (s : List UInt8) : Pt := ⟨nm (cA s), nm (cB s), []⟩
def pit (d : List Pt) (x : It) : List Pt := match d.getLast? with
  | none => d ++ [⟨0, 0, [x]⟩]
  | some p => if p.n ≠ 0 then d ++ [⟨0, 0, [x]⟩] else d.dropLast ++ [⟨p.at_, p.n, p.its ++ [x]⟩]
def kCopy : List UInt8 := [99, 111, 112, 121]
def kNext : List UInt8 := [110, 101, 120, 116]
def kItem : List UInt8 := [105, 116, 101, 109]
def rstep (d : List Pt) (t : List UInt8) : List Pt :=
  if cA t = kCopy then d ++ [rcp (cB t)] else if cA t = kNext then d ++ [⟨0, 0, []⟩] else if cA t = kItem then pit d (rit (cB t)) else d
def rd (d : List Pt) (ls : List (List UInt8 × Bool)) : List Pt := ls.foldl (fun d l => rstep d l.1) d
theorem rd_nil (d : List Pt) : rd d [] = d := rfl
theorem rd_app (d : List Pt) (a b : List (List UInt8 × Bool)) : rd d (a ++ b) = rd (rd d a) b := by unfold rd; rw [List.foldl_append]
theorem rd_one (d : List Pt) (l : List UInt8 × Bool) : rd d [l] = rstep d l.1 := rfl
theorem step_copy {d : List Pt} {a n : Int} (ha : 0 ≤ a ∧ a ≤ 2147483647) (hn : 0 ≤ n ∧ n ≤ 2147483647) : rstep d (cpln a n) = d ++ [⟨a, n, []⟩] := by
  have n1 := high_no (dec_high a) 32 (by decide)
  unfold rstep
  rw [cpln_is, cA_at (by decide), cB_at (by decide), if_pos (by decide)]
  unfold rcp
  rw [cA_at n1, cB_at n1, nm_dec ha.1 ha.2, nm_dec hn.1 hn.2]
theorem step_next (d : List Pt) : rstep d kNext = d ++ [⟨0, 0, []⟩] := rfl
theorem step_item {d : List Pt} {x : It} (h : cki x = 0) (hc : x.ct < 18446744073709551616) : rstep d (itln x) = pit d x := by
  unfold rstep
  rw [itln_itb, cA_at (by decide), cB_at (by decide), if_neg (by decide), if_neg (by decide), if_pos (by decide), rit_itb h hc]
theorem pit_on (d : List Pt) (l : List It) (x : It) : pit (d ++ [⟨0, 0, l⟩]) x = d ++ [⟨0, 0, l ++ [x]⟩] := by
  unfold pit
  simp
theorem pits_on (d : List Pt) : ∀ (l r : List It), (∀ x ∈ r, cki x = 0 ∧ x.ct < 18446744073709551616) → rd (d ++ [⟨0, 0, l⟩]) (itls r) = d ++ [⟨0, 0, l ++ r⟩]
  | l, [], _ => by rw [show itls [] = [] from rfl, rd_nil, List.append_nil]
  | l, x :: r, h => by
    have hx := h x (by simp)
    rw [show itls (x :: r) = [(itln x, false)] ++ itls r from rfl, rd_app, rd_one, step_item hx.1 hx.2, pit_on, pits_on d (l ++ [x]) r (fun y hy => h y (by simp [hy]))]
    simp
/-- A delta's lines; pv: the part ahead has items. -/
def ll (pv : Bool) : List Pt → List (List UInt8 × Bool)
  | [] => []
  | p :: r => (if (pv && decide (0 < p.its.length)) = true then [(kNext, false)] else []) ++ plns p.at_ p.n p.its ++ ll (decide (0 < p.its.length)) r
def lst (pv : Bool) : List Pt → Bool
  | [] => pv
  | p :: r => lst (decide (0 < p.its.length)) r
theorem ll_app : ∀ (pv : Bool) (a b : List Pt), ll pv (a ++ b) = ll pv a ++ ll (lst pv a) b
  | pv, [], b => rfl
  | pv, p :: r, b => by rw [List.cons_append, ll, ll, ll_app, lst]; simp
theorem lst_snoc : ∀ (pv : Bool) (a : List Pt) (p : Pt), lst pv (a ++ [p]) = decide (0 < p.its.length)
  | pv, [], p => rfl
  | pv, x :: r, p => by rw [List.cons_append, lst, lst_snoc]
theorem lst_take {d : List Pt} {k : Nat} (h : k ≤ d.length) : lst false (d.take k) = (decide (0 < k) && decide (0 < (d.getD (k - 1) ⟨0, 0, []⟩).its.length)) := by
  cases k with
  | zero => simp [lst]
  | succ k =>
    rw [List.take_succ_eq_append_getElem h, lst_snoc, Nat.add_sub_cancel, List.getD_eq_getElem?_getD, List.getElem?_eq_getElem h]
    simp
theorem dlk_ll (d : List Pt) : ∀ k, k ≤ d.length → dlk d k = ll false (d.take k)
  | 0, _ => by simp [dlk, ll]
  | k + 1, h => by
    have hk : k < d.length := h
    have e : d.getD k ⟨0, 0, []⟩ = d[k]'hk := by rw [List.getD_eq_getElem?_getD, List.getElem?_eq_getElem hk]; rfl
    rw [dlk, dlk_ll d k (by omega), List.take_succ_eq_append_getElem hk, ll_app, lst_take (by omega)]
    simp only [ll, List.append_nil]
    unfold nxl nxb ptl
    rw [e, Bool.and_assoc]
    simp only [List.append_assoc]
    rfl
theorem prt_ll {d : List Pt} (h : cke d = 0) : prt d = P.join (ll false d) := by
  unfold prt
  rw [if_pos h, dlk_ll d d.length (Nat.le_refl _), List.take_length]
theorem cke_all {d : List Pt} : cke d = 0 ↔ ∀ p ∈ d, ckt p.at_ p.n p.its = 0 := by
  induction d with
  | nil => exact ⟨fun _ p hp => (by cases hp), fun _ => rfl⟩
  | cons p r ih =>
    rw [cke]
    by_cases h : ckt p.at_ p.n p.its = 0
    · rw [if_neg (by simpa using h), ih]
      exact ⟨fun h' q hq => by
        rcases List.mem_cons.1 hq with rfl | hq
        · exact h
        · exact h' q hq, fun h' q hq => h' q (by simp [hq])⟩
    · rw [if_pos h]
      exact ⟨fun h' => absurd h' h, fun h' => absurd (h' p (by simp)) h⟩
/-- No categories beyond a machine's word. -/
def Small (d : List Pt) : Prop := ∀ p ∈ d, ∀ x ∈ p.its, x.ct < 18446744073709551616
/-- Reading a delta's lines. -/
theorem rd_ll : ∀ (d o : List Pt) (pv : Bool), (∀ p ∈ d, ckt p.at_ p.n p.its = 0) → Small d → (pv = false → o = [] ∨ ∃ q o', o = o' ++ [q] ∧ q.n ≠ 0) → rd o (ll pv d) = o ++ d
  | [], o, pv, _, _, _ => by rw [ll, rd_nil, List.append_nil]
  | p :: r, o, pv, h, hs, ho => by
    obtain ⟨ha, hn, hi, hz, hp⟩ := ckt_zero (h p (by simp))
    have hr : ∀ q ∈ r, ckt q.at_ q.n q.its = 0 := fun q hq => h q (by simp [hq])
    have hsr : Small r := fun q hq => hs q (by simp [hq])
    have hsp := hs p (by simp)
    obtain ⟨at_, n, its⟩ := p
    simp only at ha hn hi hz hp hsp
    rw [ll]
    cases its with
    | nil =>
      have hn0 := hp rfl
      simp only [List.length_nil, Nat.lt_irrefl, decide_false, Bool.and_false, Bool.false_eq_true, if_false, List.nil_append]
      rw [show plns at_ n [] = [(cpln at_ n, false)] from if_pos rfl, rd_app, rd_one, step_copy ha hn, rd_ll r _ false hr hsr (fun _ => .inr ⟨⟨at_, n, []⟩, o, rfl, by simp only; omega⟩)]
      simp
    | cons x l =>
      obtain ⟨rfl, rfl⟩ := hz (by simp)
      have hx := hi x (by simp)
      have hxc := hsp x (by simp)
      have hl : ∀ y ∈ l, cki y = 0 ∧ y.ct < 18446744073709551616 := fun y hy => ⟨hi y (by simp [hy]), hsp y (by simp [hy])⟩
      have e1 : decide (0 < (x :: l).length) = true := by simp
      simp only [e1, Bool.and_true]
      rw [show plns 0 0 (x :: l) = [(itln x, false)] ++ itls l from if_neg (by simp)]
      have e2 : rd o ((if pv = true then [(kNext, false)] else []) ++ ([(itln x, false)] ++ itls l)) = o ++ [⟨0, 0, x :: l⟩] := by
        cases pv with
        | true =>
          rw [if_pos rfl, rd_app, rd_one, step_next, rd_app, rd_one, step_item hx hxc, pit_on, pits_on o _ l hl]
          rfl
        | false =>
          rw [if_neg (by simp), List.nil_append, rd_app, rd_one, step_item hx hxc]
          have e3 : pit o x = o ++ [⟨0, 0, [x]⟩] := by
            rcases ho rfl with rfl | ⟨q, o', rfl, hq⟩
            · rfl
            · unfold pit
              simp [hq]
          rw [e3, pits_on o _ l hl]
          rfl
      rw [rd_app, e2, rd_ll r _ true hr hsr (fun h => by cases h)]
      simp
theorem ll_right : ∀ (d : List Pt) (pv : Bool), (∀ p ∈ d, ckt p.at_ p.n p.its = 0) → ∀ y ∈ ll pv d, (10 : UInt8) ∉ y.1 ∧ y.2 = false
  | [], pv, _, y, hy => by cases hy
  | p :: r, pv, h, y, hy => by
    rw [ll, List.mem_append, List.mem_append] at hy
    rcases hy with (hy | hy) | hy
    · split at hy
      · rw [List.mem_singleton.1 hy]; exact ⟨by decide, rfl⟩
      · cases hy
    · obtain ⟨ha, hn, hi, hz, hp⟩ := ckt_zero (h p (by simp))
      unfold plns at hy
      split at hy
      · rw [List.mem_singleton.1 hy]
        refine ⟨?_, rfl⟩
        simp only
        rw [cpln_is]
        have n1 := high_no (dec_high p.at_) 10 (by decide)
        have n2 := high_no (dec_high p.n) 10 (by decide)
        simp [n1, n2]
      · unfold itls at hy
        obtain ⟨x, hx, rfl⟩ := List.mem_map.1 hy
        refine ⟨?_, rfl⟩
        simp only
        obtain ⟨-, -, -, h4, -⟩ := cki_zero (hi x hx)
        have n1 := high_no (dec_high x.id) 10 (by decide)
        have n2 := high_no (print_high x.lv x.ct) 10 (by decide)
        have n3 := high_no (knd_high x) 10 (by decide)
        have n4 : (10 : UInt8) ∉ x.tx := by simpa using h4
        rw [itln_is]
        simp [n1, n2, n3, n4]
    · exact ll_right r _ (fun q hq => h q (by simp [hq])) y hy
theorem right_all : ∀ (l : List (List UInt8 × Bool)), (∀ y ∈ l, (10 : UInt8) ∉ y.1 ∧ y.2 = false) → P.right l = true
  | [], _ => rfl
  | (t, b) :: r, h => by
    obtain ⟨h1, h2⟩ := h (t, b) (by simp)
    simp only at h1 h2
    subst h2
    rw [P.right, right_all r (fun y hy => h y (by simp [hy]))]
    simp [h1]
theorem lines_prt {d : List Pt} (h : cke d = 0) : P.lines [] (prt d) = ll false d := by
  rw [prt_ll h, P.lines_join _ (right_all _ (ll_right d false (cke_all.1 h)))]
/-- What was printed is read as it was. -/
theorem rd_prt {d : List Pt} (h : cke d = 0) (hs : Small d) : rd [] (P.lines [] (prt d)) = d := by
  rw [lines_prt h, rd_ll d [] false (cke_all.1 h) hs (fun _ => .inl rfl)]
  rfl
end Go.Proofs.YtlggoplffhdkhaaDoor.Dl

namespace Go.Proofs.YtlggoplffhdkhaaDoor.Dl
set_option linter.unusedVariables false
set_option linter.unusedSimpArgs false
open Go.RowKit Go.Maps
open T
open V (drawn_below grown_of)
open I (It ItemsIn ItemsAt itCells itCells_snoc itCells_at alloc1 own_at own_below items_of_own items_own infoItem ItemsIn.below)

def Pq.v (q : Pq) : Value := .slice q.C q.p.its.length q.cc
def Apt (u v : Value) : Prop := ∀ k, u.ownBlock = some k → v.ownBlock ≠ some k
/-- Parts in a row of the call's own, each part's items in a row that no other part has. -/
structure Pa (W : World) (base : Nat) (v : Value) (qs : List Pq) : Prop where
  pw : Pw W base v qs
  ap : qs.Pairwise fun x y => Apt x.v y.v
  hs : base ≤ W.heap.size
theorem Pa.below {W W' : World} {base : Nat} {v : Value} {qs : List Pq} (h : Pa W base v qs) (hb : Below W.heap.size W W') : Pa W' base v qs := ⟨h.pw.below hb, h.ap, Nat.le_trans h.hs hb.size⟩
theorem Pa.nil (W : World) : Pa W W.heap.size (.slice none 0 0) [] := ⟨Pw.nil _ _, List.Pairwise.nil, Nat.le_refl _⟩
theorem Pa.add {W W' : World} {base : Nat} {v v' : Value} {qs : List Pq} (h : Pa W base v qs) {q : Pq} (hC : q.C = none) (hi : q.p.its = []) (hc : q.cc = 0) (hg : W.grownBy W' v.ownBlock) (ho : W'.ownsRow base 27 3 v' (qs.length + 1) (pqCells qs ++ [.int .i64 q.p.at_, .int .i64 q.p.n, .slice q.C q.p.its.length q.cc])) : Pa W' base v' (qs ++ [q]) := by
  refine ⟨h.pw.add (by rw [hC, hi, hc]; exact World.ownsRow_nil _ _ _ _) hg ho, ?_, Nat.le_trans h.hs hg.size⟩
  rw [List.pairwise_append]
  refine ⟨h.ap, List.pairwise_singleton _ _, fun a _ b hb k hk => ?_⟩
  obtain rfl := List.mem_singleton.1 hb
  unfold Pq.v
  rw [hC]
  intro e
  cases e
theorem own_set {w : World} {base g i : Nat} {u : Value} {e e' : TypeId} {size n : Nat} {v : Value} {xs : List Value} {cs : Array Value} (h : w.ownsRow base e size v n xs) (hg : w.heap[g]? = some (.cells cs e' (0, 0))) (hne : e' ≠ e) : (w.setCell ⟨g, i, none⟩ u).ownsRow base e size v n xs :=
  h.kept (V.grown_set w ⟨g, i, none⟩ u) (V.own_ne h fun cs' he => by rw [hg] at he; injection he with he; injection he with _ he; exact hne he)
theorem row_blk {w : World} {base g n cap size : Nat} {e : TypeId} {xs : List Value} (h : w.ownsRow base e size (.slice (some ⟨g, 0, none⟩) n cap) n xs) : ∃ cs, w.heap[g]? = some (.cells cs e (0, 0)) := by
  rcases h.2 with ⟨h0, _⟩ | ⟨g', cap', cur, hv, _, hg, _⟩
  · cases h0
  · injection hv with e1 _ _
    injection e1 with e1
    injection e1 with e1
    subst e1
    exact ⟨cur, hg⟩
theorem Pa.grow {W W1 : World} {base g cap g5 cap5 : Nat} {ys : List Pq} {x : Pq} {y : It} (h : Pa W base (.slice (some ⟨g, 0, none⟩) (ys.length + 1) cap) (ys ++ [x])) (hg : W.grownBy W1 x.v.ownBlock)
    (ho : W1.ownsRow base 41 6 (.slice (some ⟨g5, 0, none⟩) (x.p.its.length + 1) cap5) (x.p.its.length + 1) (itCells (x.p.its ++ [y]))) (hat : x.v.ownBlock = some g5 ∨ W.heap.size ≤ g5) :
    Pa (W1.setCell ⟨g, ys.length * 3 + 2, none⟩ (.slice (some ⟨g5, 0, none⟩) (x.p.its.length + 1) cap5)) base (.slice (some ⟨g, 0, none⟩) (ys.length + 1) cap) (ys ++ [⟨⟨x.p.at_, x.p.n, x.p.its ++ [y]⟩, some ⟨g5, 0, none⟩, cap5⟩]) := by
  have hx := h.pw.its x (by simp)
  have hown := h.pw.own
  rw [show (ys ++ [x]).length = ys.length + 1 by simp] at hown
  have hown1 := hown.kept hg (V.own_apart (by decide) hown hx)
  obtain ⟨h1, h2⟩ := World.ownsRow.stored hown1 (ys.length * 3 + 2) (.slice (some ⟨g5, 0, none⟩) (x.p.its.length + 1) cap5)
  have e : (pqCells (ys ++ [x])).set (ys.length * 3 + 2) (.slice (some ⟨g5, 0, none⟩) (x.p.its.length + 1) cap5) = pqCells (ys ++ [⟨⟨x.p.at_, x.p.n, x.p.its ++ [y]⟩, some ⟨g5, 0, none⟩, cap5⟩]) := by
    rw [pqCells_snoc, pqCells_snoc, List.set_append_right _ _ (by rw [pqCells_length]; omega), pqCells_length, show ys.length * 3 + 2 - ys.length * 3 = 2 by omega]
    simp
  rw [e] at h1
  obtain ⟨cs, hh⟩ := row_blk hown1
  have hap := h.ap
  rw [List.pairwise_append] at hap
  refine ⟨⟨by simpa using h1, fun q hq => ?_⟩, ?_, Nat.le_trans (Nat.le_trans h.hs hg.size) h2.size⟩
  · rcases List.mem_append.1 hq with hq | hq
    · have hq0 := h.pw.its q (by simp [hq])
      have apq := hap.2.2 q hq x (List.mem_singleton_self _)
      refine own_set (hq0.kept hg ?_) hh (by decide)
      cases hv : (Value.slice q.C q.p.its.length q.cc).ownBlock with
      | none => exact .inl rfl
      | some k => exact .inr (fun e => apq k hv e.symm)
    · obtain rfl := List.mem_singleton.1 hq
      exact own_set (by simpa using ho) hh (by decide)
  · rw [List.pairwise_append]
    refine ⟨hap.1, List.pairwise_singleton _ _, fun a ha b hb k hk => ?_⟩
    obtain rfl := List.mem_singleton.1 hb
    intro e
    have e2 : some g5 = some k := e
    injection e2 with e2
    subst e2
    rcases hat with h3 | h3
    · exact hap.2.2 a ha x (List.mem_singleton_self _) g5 hk h3
    · have := (World.ownsRow.lt (h.pw.its a (by simp [ha])) g5 hk).2
      omega
theorem pit_new {d : List Pt} {x : It} (h : d = [] ∨ ∃ e p, d = e ++ [p] ∧ p.n ≠ 0) : pit d x = d ++ [⟨0, 0, [] ++ [x]⟩] := by
  rcases h with rfl | ⟨e, p, rfl, hp⟩
  · rfl
  · unfold pit
    simp [hp]
theorem pit_last {e : List Pt} {p : Pt} {x : It} (h : p.n = 0) : pit (e ++ [p]) x = e ++ [⟨p.at_, p.n, p.its ++ [x]⟩] := by
  unfold pit
  simp [h]
def PuEnd (w : World) (base : Nat) (d : List Pt) (e : Ending) (w' : World) : Prop := ∃ A cap qs, e = .returned (.slice A qs.length cap) ∧ Pa w' base (.slice A qs.length cap) qs ∧ qs.map (·.p) = d ∧ Below base w w'
theorem put_end {base g c2 g3 cap3 m n1 : Nat} {w w2 w4 : World} {ys : List Pq} {q : Pq} {x : It} {s : ByteArray} {d : List Pt} {o : Obj} (HP : Pa w2 base (.slice (some ⟨g, 0, none⟩) (ys.length + 1) c2) (ys ++ [q])) (HB : Below base w w2) (HE : d = ys.map (·.p) ++ [⟨q.p.at_, q.p.n, q.p.its ++ [x]⟩]) (hm : m = ys.length) (hn : n1 = m + 1) (hs : s = ⟨x.tx.toArray⟩)
    (hg : (w2.alloc o).drew.grownBy w4 (Value.slice q.C q.p.its.length q.cc).ownBlock) (ho : w4.ownsRow base 41 6 (.slice (some ⟨g3, 0, none⟩) (q.p.its.length + 1) cap3) (q.p.its.length + 1) (itCells q.p.its ++ [.int .i64 x.id, .int .i64 x.lv, .int .u64 (x.ct : Int), .bool x.an, .string s, .bool x.ba])) (hat : (Value.slice q.C q.p.its.length q.cc).ownBlock = some g3 ∨ w2.heap.size ≤ g3) :
    PuEnd w base d (.returned (.slice (some ⟨g, 0, none⟩) n1 c2)) (w4.setCell ⟨g, m * 3 + 2, none⟩ (.slice (some ⟨g3, 0, none⟩) (q.p.its.length + 1) cap3)) := by
  subst hm hn hs
  have hg2 : w2.grownBy w4 (Value.slice q.C q.p.its.length q.cc).ownBlock := (grown_of (((Below.refl _ _).alloc (Nat.le_refl _) _).drew) _).trans hg
  rw [← itCells_snoc] at ho
  have h := HP.grow (y := x) hg2 ho hat
  have e : (ys ++ [(⟨⟨q.p.at_, q.p.n, q.p.its ++ [x]⟩, some ⟨g3, 0, none⟩, cap3⟩ : Pq)]).length = ys.length + 1 := by simp
  refine ⟨some ⟨g, 0, none⟩, c2, _, by rw [e], by rw [e]; exact h, by rw [HE]; simp, (HB.grown hg2 HP.hs (own_base (HP.pw.its q (by simp)))).setCell (p := ⟨g, _, none⟩) ?_ _⟩
  exact (World.ownsRow.lt HP.pw.own g rfl).1
set_option maxRecDepth 100000 in
set_option maxHeartbeats 8000000 in
theorem put_any (base : Nat) (A : Option Addr) (cap : Nat) (qs : List Pq) (x : It) (w : World) (hP : Pa w base (.slice A qs.length cap) qs) (hl : qs.length ≤ 4000000000) (hi : ∀ q ∈ qs, q.p.its.length ≤ 4000000000) :
    Calls Tryd.prog 56 #[.slice A qs.length cap, itV x] w (PuEnd w base (pit (qs.map (·.p)) x)) := by
  obtain ⟨i0, hi0, hz0, hz1, hz2⟩ := info_parts infoItem
  obtain ⟨j0, hj0, hy0, hy1, hy2⟩ := info_parts infoPart
  obtain ⟨s, hs⟩ : ∃ s : ByteArray, s = ⟨x.tx.toArray⟩ := ⟨_, rfl⟩
  have HS := Lib.hid hs
  simp only [itV]
  rw [← hs]
  obtain ⟨W1, hW1⟩ : ∃ W : World, W = w.alloc (.cells #[.int .i64 x.id, .int .i64 x.lv, .int .u64 (x.ct : Int), .bool x.an, .string s, .bool x.ba] 41) := ⟨_, rfl⟩
  have hx1 : W1.heap[w.heap.size]? = some (.cells #[.int .i64 x.id, .int .i64 x.lv, .int .u64 (x.ct : Int), .bool x.an, .string s, .bool x.ba] 41 (0, 0)) := by rw [hW1]; exact heap_alloc_new w _
  have HX1 := Lib.hid hx1
  have HP1 := Lib.hid (hP.below (show Below w.heap.size w W1 by rw [hW1]; exact alloc1 _ _))
  have HB1 := Lib.hid (show Below base w W1 by rw [hW1]; exact (Below.refl _ _).alloc hP.hs _)
  obtain ⟨xb, hxb⟩ : ∃ q, q = w.heap.size := ⟨_, rfl⟩
  rw [← hxb] at HX1
  have HXB := Lib.hid (show base ≤ xb by rw [hxb]; exact hP.hs)
  clear hs hx1 hP
  go_enter Tryd.func56, Tryd.ntmps56
  go_upto_region 1 with fail
  rw [← hW1, ← hxb]
  clear hW1 hxb
  obtain ⟨nb, hnb⟩ : ∃ nb : Bool, nb = true ↔ (qs.map (·.p) = [] ∨ ∃ e p, qs.map (·.p) = e ++ [p] ∧ p.n ≠ 0) := by
    rcases Classical.em (qs.map (·.p) = [] ∨ ∃ e p, qs.map (·.p) = e ++ [p] ∧ p.n ≠ 0) with h | h
    · exact ⟨true, fun _ => h, fun _ => rfl⟩
    · exact ⟨false, fun e => (by cases e), fun e => absurd e h⟩
  have HNB := Lib.hid hnb
  clear hnb
  go_cut [18] (fun c wz => c = .bool nb ∧ wz = W1)
  case first =>
    rcases List.eq_nil_or_concat qs with hqs | ⟨ys, q, hqs⟩
    · obtain rfl : nb = true := HNB.out.2 (.inl (by rw [hqs]; rfl))
      have hz : ((qs.length : Int) == 0) = true := by rw [hqs]; rfl
      clear HNB hqs
      go_wp2_with fail
      go_meet
      case rel => exact ⟨rfl, rfl⟩
    · rw [List.concat_eq_append] at hqs
      have hlen : qs.length = ys.length + 1 := by rw [hqs]; simp
      obtain ⟨g, hA, hg0, hgl, hc⟩ := own_at HP1.out.pw.own (by omega)
      subst hA
      have c1 := hc (ys.length * 3 + 1) (.int .i64 q.p.n) (by rw [hqs]; have := (pqCells_at (ys ++ [q]) ys.length (by simp)).2.1; simpa using this)
      have hz : ((qs.length : Int) == 0) = false := beq_eq_false_iff_ne.2 (by omega)
      have hw1 : IntKind.i64.wrap ((qs.length : Int) - 1) = (ys.length : Int) := by rw [IntKind.wrap_i64]; omega
      have h0m : (0 : Int) ≤ (ys.length : Int) := by omega
      have hmn : (ys.length : Int) < (qs.length : Int) := by omega
      by_cases hq : q.p.n = 0
      · obtain rfl : nb = false := by
          cases nb with
          | false => rfl
          | true =>
            rw [hqs] at HNB
            rcases HNB.out.1 rfl with h | ⟨e, p, h, hp⟩
            · simp at h
            · rw [List.map_append] at h
              have := (List.append_inj' h rfl).2
              simp only [List.map_cons, List.map_nil, List.cons.injEq, and_true] at this
              rw [← this] at hp
              exact absurd hq hp
        have hqb : (q.p.n != 0) = false := by simp [hq]
        clear HNB hc hqs hlen
        go_wp2_with fail
        go_meet
        case rel => exact ⟨rfl, rfl⟩
      · obtain rfl : nb = true := HNB.out.2 (.inr ⟨ys.map (·.p), q.p, by rw [hqs]; simp, hq⟩)
        have hqb : (q.p.n != 0) = true := by simp [hq]
        clear HNB hc hqs hlen
        go_wp2_with fail
        go_meet
        case rel => exact ⟨rfl, rfl⟩
  case rest =>
  obtain ⟨rfl, hwc⟩ := hcut
  subst wc
  go_upto_if 18 with fail
  go_cut [0] (fun v wz => ∃ g c2 ys q, v = .slice (some ⟨g, 0, none⟩) (ys.length + 1) c2 ∧ Hid (Pa wz base (.slice (some ⟨g, 0, none⟩) (ys.length + 1) c2) (ys ++ [q])) ∧ Hid (wz.heap[xb]? = some (.cells #[.int .i64 x.id, .int .i64 x.lv, .int .u64 (x.ct : Int), .bool x.an, .string s, .bool x.ba] 41 (0, 0))) ∧ Hid (Below base w wz) ∧ Hid (pit (qs.map (·.p)) x = ys.map (·.p) ++ [⟨q.p.at_, q.p.n, q.p.its ++ [x]⟩]) ∧ ys.length ≤ 4000000000 ∧ q.p.its.length ≤ 4000000000)
  case first =>
    cases nb with
    | true =>
      have HE := Lib.hid (pit_new (x := x) (HNB.out.1 rfl))
      have hown := HP1.out.pw.own
      have hs1 := HP1.out.hs
      have HOA := Lib.hid (World.ownsRow.alloc hown (.cells #[.int .i64 0, .int .i64 0, .slice none 0 0] 27))
      have HNW := Lib.hid (World.news_of_block (w := W1.alloc (.cells #[.int .i64 0, .int .i64 0, .slice none 0 0] 27)) (B := W1.heap.size) (heap_alloc_new W1 _))
      clear hown
      go_wp2_with (at_builtin; refine wpList_append_own_at _ rfl (.tmp 19) (.tmp 21) 24 rfl base 27 j0 _ 3 40 Tryd.underlying24 hj0 hy0 hy1 hy2 rfl (by decide) _ qs.length (pqCells qs) rfl HOA.out ⟨W1.heap.size, 0, none⟩ 1 1 [.int .i64 0, .int .i64 0, .slice none 0 0] rfl rfl HNW.out ?c2 ?c3 ?c4 ?c5 ?_)
      case c2 => first | exact ⟨rfl, rfl⟩ | exact ⟨rfl, rfl, rfl⟩ | (intro u hu; simp at hu; rcases hu with rfl | rfl | rfl <;> rfl)
      case c3 => simp only [maxLen]; omega
      case c4 => omega
      case c5 => first | omega | (simp; omega)
      intro v' w4 hown4 hg4 _ hat4
      have hg1 : W1.grownBy w4 (Value.slice A qs.length cap).ownBlock := (grown_of (alloc1 W1 _) _).trans hg4
      have hP4 := HP1.out.add (q := ⟨⟨0, 0, []⟩, none, 0⟩) rfl rfl rfl hg1 hown4
      have HX4 := Lib.hid ((hg1.block xb (L.blk_lt HX1.out) (fun e => V.own_ne' HP1.out.pw.own (fun cs e' => by rw [HX1.out] at e'; injection e' with e'; injection e' with _ e'; exact absurd e' (by decide)) e)).trans HX1.out)
      have HB4 := Lib.hid (HB1.out.grown hg1 hs1 (own_base HP1.out.pw.own))
      obtain ⟨g4, cap4, hv4, -, -⟩ := World.ownsRow.form hown4 (by omega)
      subst hv4
      have HP4 := Lib.hid hP4
      clear hown4 hg4 hat4 hg1 hP4 HOA HNW
      go_wp2_with fail
      go_meet
      case rel => exact ⟨g4, cap4, qs, ⟨⟨0, 0, []⟩, none, 0⟩, rfl, HP4, HX4, HB4, HE, hl, Nat.zero_le _⟩
    | false =>
      rcases List.eq_nil_or_concat qs with hqs | ⟨ys, q, hqs⟩
      · exact absurd (HNB.out.2 (.inl (by rw [hqs]; rfl))) (by simp)
      · rw [List.concat_eq_append] at hqs
        have hlen : qs.length = ys.length + 1 := by rw [hqs]; simp
        obtain ⟨g, hA, -⟩ := own_at HP1.out.pw.own (by omega)
        subst hA
        have hq : q.p.n = 0 := Decidable.byContradiction fun hq => absurd (HNB.out.2 (.inr ⟨ys.map (·.p), q.p, by rw [hqs]; simp, hq⟩)) (by simp)
        have HE : Hid (pit (qs.map (·.p)) x = ys.map (·.p) ++ [⟨q.p.at_, q.p.n, q.p.its ++ [x]⟩]) := Lib.hid (by rw [hqs, List.map_append]; exact pit_last hq)
        have hqi := hi q (by rw [hqs]; simp)
        have HP2 := Lib.hid (show Pa W1 base (.slice (some ⟨g, 0, none⟩) (ys.length + 1) cap) (ys ++ [q]) by rw [← hlen, ← hqs]; exact HP1.out)
        have HLN := Lib.hid hlen
        have hyl : ys.length ≤ 4000000000 := by omega
        clear HNB hi hqs hlen
        go_wp2_with fail
        go_meet
        case rel => exact ⟨g, cap, ys, q, by rw [HLN.out], HP2, HX1, HB1, HE, hyl, hqi⟩
  case rest =>
  obtain ⟨g, c2, ys, q, rfl, HP, HX, HB, HE, hl1, hl2⟩ := hcut
  clear HNB HP1 HX1 HB1 hl hi
  generalize wc = w2 at *
  have hown := HP.out.pw.own
  rw [show (ys ++ [q]).length = ys.length + 1 by simp] at hown
  have hoi := HP.out.pw.its q (by simp)
  obtain ⟨cs, hblk⟩ := row_blk hown
  obtain ⟨g', hge, hg0, hgl, hc⟩ := own_at hown (by omega)
  obtain rfl : g' = g := by injection hge with e; injection e with e; exact e.symm
  have k2 : w2.cell? ⟨g', ys.length * 3 + 2, none⟩ = some (.slice q.C q.p.its.length q.cc) := hc _ _ (by have := (pqCells_at (ys ++ [q]) ys.length (by simp)).2.2; simpa using this)
  have z2 := L.blk_free hblk (ys.length * 3 + 2)
  have HGT : Hid (some g' ≠ (Value.slice q.C q.p.its.length q.cc).ownBlock) := Lib.hid (V.own_ne' hoi (fun cs' e => by rw [hblk] at e; injection e with e; injection e with _ e; exact absurd e (by decide)))
  have HOI := Lib.hid hoi
  have hbs := HP.out.hs
  obtain ⟨m, hm⟩ : ∃ m, m = ys.length := ⟨_, rfl⟩
  have HM := Lib.hid hm
  rw [← hm] at k2 z2 hl1 ⊢
  obtain ⟨n1, hn1⟩ : ∃ n1, n1 = m + 1 := ⟨_, rfl⟩
  have HN1 := Lib.hid hn1
  have hw1 : IntKind.i64.wrap ((n1 : Int) - 1) = (m : Int) := by rw [IntKind.wrap_i64]; omega
  have h0m : (0 : Int) ≤ (m : Int) := by omega
  have hmn : (m : Int) < (n1 : Int) := by omega
  rw [← hn1]
  have hxl : xb < w2.heap.size := L.blk_lt HX.out
  have hx2 := HX.out
  have x0 := L.blk_cell hx2 0
  have x1 := L.blk_cell hx2 1
  have x2 := L.blk_cell hx2 2
  have x3 := L.blk_cell hx2 3
  have x4 := L.blk_cell hx2 4
  have x5 := L.blk_cell hx2 5
  simp only [List.getElem?_toArray, List.getElem?_cons_zero, List.getElem?_cons_succ] at x0 x1 x2 x3 x4 x5
  have HNW := Lib.hid (World.news_of_block (w := (w2.alloc (.cells #[.int .i64 x.id, .int .i64 x.lv, .int .u64 (x.ct : Int), .bool x.an, .string s, .bool x.ba] 41)).drew) (heap_alloc_new w2 _))
  have H1C : Hid (∀ u ∈ ([.int .i64 x.id, .int .i64 x.lv, .int .u64 (x.ct : Int), .bool x.an, .string s, .bool x.ba] : List Value), u.oneCell' = true) := Lib.hid (by intro u hu; simp at hu; rcases hu with rfl | rfl | rfl | rfl | rfl | rfl <;> rfl)
  have HOA : Hid ((w2.alloc (.cells #[.int .i64 x.id, .int .i64 x.lv, .int .u64 (x.ct : Int), .bool x.an, .string s, .bool x.ba] 41)).drew.ownsRow base 41 6 (.slice q.C q.p.its.length q.cc) q.p.its.length (itCells q.p.its)) := Lib.hid (World.ownsRow.alloc hoi _)
  clear hown hoi hblk hc hm hn1 hx2 hge HOI
  go_upto_region 4 with fail
  go_region_law ((refine step_append_lies _ (by rfl) (.tmp 32) (.tmp 34) 22 (by rfl) base 41 i0 _ 6 56 Tryd.underlying22 hi0 hz0 hz1 hz2 rfl (by decide) (.slice q.C q.p.its.length q.cc) q.p.its.length (itCells q.p.its) (by rfl) HOA.out ⟨w2.heap.size, 0, none⟩ 1 1 [.int .i64 x.id, .int .i64 x.lv, .int .u64 (x.ct : Int), .bool x.an, .string s, .bool x.ba] (by rfl) rfl HNW.out H1C.out (by omega) (by unfold maxLen; omega) (by omega) (by simp; omega) _ rfl ?_; intro g3 cap3 w4 hown3 hgrow3 hat3 hlt3; have hc3 := hgrow3.cell_far ⟨g', m * 3 + 2, none⟩ (by simp; omega) HGT.out; have hz3 := hgrow3.frozen_far ⟨g', m * 3 + 2, none⟩ (by simp; omega) HGT.out))
  all_goals
    go_wp2_with fail
    go_ret
    exact put_end HP.out HB.out HE.out HM.out HN1.out HS.out hgrow3 hown3 (hat3.imp id (fun h => by rw [h]; simp))
end Go.Proofs.YtlggoplffhdkhaaDoor.Dl
