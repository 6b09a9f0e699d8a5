/-
  How an older list of items comes from a newer one, in plain words: the walk through both, the parts, the list that they make, how many items of their own.
  Items compared, items as keys of a map, a map from items to numbers as a function.
  An argument that is items, opened: its numbers are those of a machine.
-/
import Derived.Test.YtmddikabilnokaaGya
import Derived.Laws.StructEq
import Derived.Maps.OwnSet
import Derived.Maps.OwnOps
import Derived.Maps.Views
import Derived.DeepKeys4
import Derived.WideKeyPair
import Derived.BigQuiet
import Derived.Test.YtmddikabilnokaaGyg
namespace Go.Proofs.Ytmddikabilnokaa.Dl
set_option linter.unusedVariables false
set_option linter.unusedSimpArgs false
open I (It)

/-- A part: where it begins in the newer list, how many items of that, its own items. -/
structure Pt where
  at_ : Int
  n : Int
  its : List It
deriving DecidableEq
/-- The last one is altered. -/
def mdl (f : Pt → Pt) (o : List Pt) : List Pt := o.dropLast ++ (o.getLast?.map f).toList
theorem mdl_snoc (f : Pt → Pt) (o : List Pt) (p : Pt) : mdl f (o ++ [p]) = o ++ [f p] := by simp [mdl]
theorem mdl_len (f : Pt → Pt) {o : List Pt} (h : o ≠ []) : (mdl f o).length = o.length := by
  rw [← List.dropLast_concat_getLast h, mdl_snoc]; simp
def stay (s : List Pt × Nat) (i : Nat) : List Pt × Nat := (if s.2 = 1 then mdl (fun p => ⟨p.at_, p.n + 1, []⟩) s.1 else s.1 ++ [⟨(i : Int), 1, []⟩], 1)
def put (s : List Pt × Nat) (x : It) : List Pt × Nat := (if s.2 = 2 then mdl (fun p => ⟨0, 0, p.its ++ [x]⟩) s.1 else s.1 ++ [⟨0, 0, [x]⟩], 2)
/-- The walk, from the newer one's item i on. -/
def mk : List It → List It → Nat → List Pt × Nat → List Pt
  | [], [], _, s => s.1
  | [], y :: r, i, s => mk [] r i (put s y)
  | _ :: n, [], i, s => mk n [] (i + 1) (s.1, 0)
  | x :: n, y :: r, i, s => if x = y then mk n r (i + 1) (stay s i) else if y ∈ n then mk n (y :: r) (i + 1) (s.1, 0) else mk (x :: n) r i (put s y)
termination_by a b => a.length + b.length
def make (a b : List It) : List Pt := mk a b 0 ([], 0)

theorem mk_nil : ∀ (n : List It) (i : Nat) (s : List Pt × Nat), mk n [] i s = s.1
  | [], i, s => by rw [mk]
  | x :: n, i, s => by rw [mk, mk_nil n]
theorem mk_eq (x : It) (n r : List It) (i : Nat) (s : List Pt × Nat) : mk (x :: n) (x :: r) i s = mk n r (i + 1) (stay s i) := by rw [mk, if_pos rfl]
theorem mk_put {y : It} {n : List It} (h : y ∉ n) (r : List It) (i : Nat) (s : List Pt × Nat) : mk n (y :: r) i s = mk n r i (put s y) := by
  cases n with
  | nil => rw [mk]
  | cons x n => rw [mk, if_neg (by rintro rfl; exact h List.mem_cons_self), if_neg (fun e => h (List.mem_cons_of_mem _ e))]
theorem mk_skip {x y : It} {n : List It} (hne : x ≠ y) (h : y ∈ n) (r : List It) (i : Nat) (s : List Pt × Nat) : mk (x :: n) (y :: r) i s = mk n (y :: r) (i + 1) (s.1, 0) := by rw [mk, if_neg hne, if_pos h]
/-! Whole stretches at once. -/
theorem mk_puts {n : List It} (i : Nat) : ∀ {xs : List It} (r : List It) (o : List Pt) (z : List It), (∀ x ∈ xs, x ∉ n) → mk n (xs ++ r) i (o ++ [⟨0, 0, z⟩], 2) = mk n r i (o ++ [⟨0, 0, z ++ xs⟩], 2)
  | [], r, o, z, _ => by simp
  | x :: xs, r, o, z, h => by
    rw [List.cons_append, mk_put (h x List.mem_cons_self)]
    have e : put (o ++ [⟨0, 0, z⟩], 2) x = (o ++ [⟨0, 0, z ++ [x]⟩], 2) := by rw [put, if_pos rfl, mdl_snoc]
    rw [e, mk_puts i r o (z ++ [x]) fun y hy => h y (List.mem_cons_of_mem _ hy)]
    simp
theorem mk_own {n xs : List It} (i : Nat) (r : List It) {s : List Pt × Nat} (h : ∀ x ∈ xs, x ∉ n) (hx : xs ≠ []) (hs : s.2 ≠ 2) : mk n (xs ++ r) i s = mk n r i (s.1 ++ [⟨0, 0, xs⟩], 2) := by
  cases xs with
  | nil => exact absurd rfl hx
  | cons x xs =>
    rw [List.cons_append, mk_put (h x List.mem_cons_self)]
    have e : put s x = (s.1 ++ [⟨0, 0, [x]⟩], 2) := by rw [put, if_neg hs]
    rw [e, mk_puts i r s.1 [x] fun y hy => h y (List.mem_cons_of_mem _ hy)]
    rfl
theorem mk_stays : ∀ {c : List It} (n r : List It) (i : Nat) (o : List Pt) (a m : Int), mk (c ++ n) (c ++ r) i (o ++ [⟨a, m, []⟩], 1) = mk n r (i + c.length) (o ++ [⟨a, m + c.length, []⟩], 1)
  | [], n, r, i, o, a, m => by simp
  | x :: c, n, r, i, o, a, m => by
    rw [List.cons_append, List.cons_append, mk_eq]
    have e : stay (o ++ [⟨a, m, []⟩], 1) i = (o ++ [⟨a, m + 1, []⟩], 1) := by rw [stay, if_pos rfl, mdl_snoc]
    rw [e, mk_stays n r (i + 1) o a (m + 1), List.length_cons]
    rw [show i + 1 + c.length = i + (c.length + 1) by omega, show m + 1 + (c.length : Int) = m + ((c.length + 1 : Nat) : Int) by omega]
theorem mk_copy {c : List It} (n r : List It) (i : Nat) {s : List Pt × Nat} (hc : c ≠ []) (hs : s.2 ≠ 1) : mk (c ++ n) (c ++ r) i s = mk n r (i + c.length) (s.1 ++ [⟨(i : Int), (c.length : Int), []⟩], 1) := by
  cases c with
  | nil => exact absurd rfl hc
  | cons x c =>
    rw [List.cons_append, List.cons_append, mk_eq]
    have e : stay s i = (s.1 ++ [⟨(i : Int), 1, []⟩], 1) := by rw [stay, if_neg hs]
    rw [e, mk_stays n r (i + 1) s.1 i 1, List.length_cons]
    rw [show i + 1 + c.length = i + (c.length + 1) by omega, show (1 : Int) + (c.length : Int) = ((c.length + 1 : Nat) : Int) by omega]
theorem mk_skips {y : It} : ∀ {z : List It} (n r : List It) (i : Nat) (s : List Pt × Nat), y ∉ z → y ∈ n → mk (z ++ n) (y :: r) i s = mk n (y :: r) (i + z.length) (s.1, if z = [] then s.2 else 0)
  | [], n, r, i, s, _, _ => by simp
  | x :: z, n, r, i, s, h, hn => by
    rw [List.cons_append, mk_skip (by rintro rfl; exact h List.mem_cons_self) (List.mem_append_right _ hn), mk_skips n r (i + 1) _ (fun e => h (List.mem_cons_of_mem _ e)) hn]
    rw [List.length_cons, if_neg (List.cons_ne_nil _ _), show i + 1 + z.length = i + (z.length + 1) by omega]
    simp
/-! What the parts make. -/
def ol (a : List It) (d : List Pt) : List It := d.flatMap fun p => p.its ++ (a.drop p.at_.toNat).take p.n.toNat
def siz (d : List Pt) : Nat := (d.map fun p => p.its.length).sum
theorem ol_snoc (a : List It) (d : List Pt) (p : Pt) : ol a (d ++ [p]) = ol a d ++ (p.its ++ (a.drop p.at_.toNat).take p.n.toNat) := by simp [ol]
theorem siz_snoc (d : List Pt) (p : Pt) : siz (d ++ [p]) = siz d + p.its.length := by simp [siz]
/-- What holds of the parts on the way, before the newer one's item i. -/
structure Wy (a : List It) (i : Nat) (s : List Pt × Nat) : Prop where
  ok : ∀ p ∈ s.1, (p.its = [] ∧ 0 ≤ p.at_ ∧ 0 < p.n ∧ p.at_ + p.n ≤ i) ∨ (p.its ≠ [] ∧ p.at_ = 0 ∧ p.n = 0)
  l1 : s.2 = 1 → ∃ (o : List Pt) (m : Int), s.1 = o ++ [⟨(i : Int) - m, m, []⟩] ∧ 0 < m ∧ m ≤ i
  l2 : s.2 = 2 → ∃ o z, s.1 = o ++ [⟨0, 0, z⟩] ∧ z ≠ []
  hi : i ≤ a.length
theorem Wy.start (a : List It) : Wy a 0 ([], 0) := ⟨(fun p hp => by cases hp), (fun h => by cases h), (fun h => by cases h), Nat.zero_le _⟩
theorem Wy.skip {a : List It} {i : Nat} {s : List Pt × Nat} (h : Wy a i s) (hi : i < a.length) : Wy a (i + 1) (s.1, 0) :=
  ⟨fun p hp => (h.ok p hp).imp (fun g => ⟨g.1, g.2.1, g.2.2.1, by omega⟩) id, (fun e => by cases e), (fun e => by cases e), hi⟩
theorem take_more {α : Type} (l : List α) {k : Nat} (h : k < l.length) : l.take (k + 1) = l.take k ++ [l[k]] := List.take_succ_eq_append_getElem h
theorem Wy.stay {a : List It} {i : Nat} {s : List Pt × Nat} (h : Wy a i s) (hi : i < a.length) : Wy a (i + 1) (stay s i) ∧ ol a (Dl.stay s i).1 = ol a s.1 ++ [a[i]] ∧ siz (Dl.stay s i).1 = siz s.1 := by
  unfold Dl.stay
  by_cases e : s.2 = 1
  · obtain ⟨o, m, hs, h0, hm⟩ := h.l1 e
    have hok := h.ok
    rw [if_pos e, hs, mdl_snoc]
    rw [hs] at hok
    refine ⟨⟨fun p hp => ?_, fun _ => ⟨o, m + 1, ?_, by omega, by omega⟩, (fun e => by cases e), hi⟩, ?_, ?_⟩
    · rcases List.mem_append.1 hp with hp | hp
      · exact (hok p (List.mem_append_left _ hp)).imp (fun g => ⟨g.1, g.2.1, g.2.2.1, by omega⟩) id
      · simp only [List.mem_singleton] at hp
        subst hp
        exact .inl ⟨rfl, by simp only; omega, by simp only; omega, by simp only; omega⟩
    · show o ++ [Pt.mk _ _ _] = _
      rw [show ((i + 1 : Nat) : Int) - (m + 1) = (i : Int) - m by omega]
    · rw [ol_snoc, ol_snoc]
      simp only [List.nil_append, List.append_assoc]
      congr 1
      obtain ⟨k, rfl⟩ : ∃ k : Nat, m = k := ⟨m.toNat, by omega⟩
      rw [show ((k : Int) + 1).toNat = k + 1 by omega, show ((k : Int)).toNat = k by omega, take_more _ (by rw [List.length_drop]; omega), List.getElem_drop]
      congr 2
      congr 1
      omega
    · rw [siz_snoc, siz_snoc]
  · rw [if_neg e]
    refine ⟨⟨fun p hp => ?_, fun _ => ⟨s.1, 1, ?_, by omega, by omega⟩, (fun e => by cases e), hi⟩, ?_, ?_⟩
    · rcases List.mem_append.1 hp with hp | hp
      · exact (h.ok p hp).imp (fun g => ⟨g.1, g.2.1, g.2.2.1, by omega⟩) id
      · simp only [List.mem_singleton] at hp
        subst hp
        exact .inl ⟨rfl, by simp only; omega, by simp only; omega, by simp only; omega⟩
    · show s.1 ++ [Pt.mk _ _ _] = _
      rw [show ((i + 1 : Nat) : Int) - 1 = (i : Int) by omega]
    · rw [ol_snoc]
      simp only [List.nil_append]
      congr 1
      rw [show (1 : Int).toNat = 0 + 1 by rfl, show ((i : Int)).toNat = i by omega, take_more _ (by rw [List.length_drop]; omega), List.getElem_drop]
      simp
    · rw [siz_snoc]; rfl
theorem Wy.put {a : List It} {i : Nat} {s : List Pt × Nat} (h : Wy a i s) (x : It) : Wy a i (put s x) ∧ ol a (Dl.put s x).1 = ol a s.1 ++ [x] ∧ siz (Dl.put s x).1 = siz s.1 + 1 := by
  unfold Dl.put
  by_cases e : s.2 = 2
  · obtain ⟨o, z, hs, hz⟩ := h.l2 e
    have hok := h.ok
    rw [if_pos e, hs, mdl_snoc]
    rw [hs] at hok
    refine ⟨⟨fun p hp => ?_, (fun e => by cases e), fun _ => ⟨o, z ++ [x], rfl, by simp⟩, h.hi⟩, ?_, ?_⟩
    · rcases List.mem_append.1 hp with hp | hp
      · exact hok p (List.mem_append_left _ hp)
      · simp only [List.mem_singleton] at hp
        subst hp
        exact .inr ⟨by simp, rfl, rfl⟩
    · rw [ol_snoc, ol_snoc]
      simp
    · rw [siz_snoc, siz_snoc]
      simp only [List.length_append, List.length_cons, List.length_nil]
      omega
  · rw [if_neg e]
    refine ⟨⟨fun p hp => ?_, (fun e => by cases e), fun _ => ⟨s.1, [x], rfl, by simp⟩, h.hi⟩, ?_, ?_⟩
    · rcases List.mem_append.1 hp with hp | hp
      · exact h.ok p hp
      · simp only [List.mem_singleton] at hp
        subst hp
        exact .inr ⟨by simp, rfl, rfl⟩
    · rw [ol_snoc]; simp
    · rw [siz_snoc]; rfl
theorem mk_all (a : List It) : ∀ (n r : List It) (i : Nat) (s : List Pt × Nat), a.drop i = n → Wy a i s → (∃ e, Wy a a.length (mk n r i s, e)) ∧ ol a (mk n r i s) = ol a s.1 ++ r ∧ siz (mk n r i s) ≤ siz s.1 + r.length := by
  intro n r i s
  induction n, r, i, s using mk.induct with
  | case1 i s => 
    intro hd h
    rw [mk]
    have : i = a.length := by have := h.hi; have := List.drop_eq_nil_iff.1 hd; omega
    subst this
    exact ⟨⟨s.2, h⟩, by simp, by simp⟩
  | case2 y r i s ih =>
    intro hd h
    rw [mk]
    obtain ⟨h1, h2, h3⟩ := h.put y
    obtain ⟨g1, g2, g3⟩ := ih hd h1
    exact ⟨g1, by rw [g2, h2]; simp, by rw [h3] at g3; simp only [List.length_cons]; omega⟩
  | case3 x n i s ih =>
    intro hd h
    rw [mk]
    have hi : i < a.length := by have := congrArg List.length hd; rw [List.length_drop, List.length_cons] at this; omega
    obtain ⟨g1, g2, g3⟩ := ih (by rw [← List.drop_drop, hd]; rfl) (h.skip hi)
    exact ⟨g1, g2, g3⟩
  | case4 n x r i s ih =>
    intro hd h
    rw [mk, if_pos rfl]
    have hi : i < a.length := by have := congrArg List.length hd; rw [List.length_drop, List.length_cons] at this; omega
    have hx : a[i] = x := by
      have := List.drop_eq_getElem_cons hi
      rw [hd] at this
      exact (List.cons.inj this).1.symm
    obtain ⟨h1, h2, h3⟩ := h.stay hi
    obtain ⟨g1, g2, g3⟩ := ih (by rw [← List.drop_drop, hd]; rfl) h1
    exact ⟨g1, by rw [g2, h2, hx]; simp, by rw [h3] at g3; simp only [List.length_cons]; omega⟩
  | case5 x n y r i s hne hy ih =>
    intro hd h
    rw [mk, if_neg hne, if_pos hy]
    have hi : i < a.length := by have := congrArg List.length hd; rw [List.length_drop, List.length_cons] at this; omega
    exact ih (by rw [← List.drop_drop, hd]; rfl) (h.skip hi)
  | case6 x n y r i s hne hy ih =>
    intro hd h
    rw [mk, if_neg hne, if_neg hy]
    obtain ⟨h1, h2, h3⟩ := h.put y
    obtain ⟨g1, g2, g3⟩ := ih hd h1
    exact ⟨g1, by rw [g2, h2]; simp, by rw [h3] at g3; simp only [List.length_cons]; omega⟩
theorem make_ol (a b : List It) : ol a (make a b) = b := by
  have := (mk_all a a b 0 ([], 0) rfl (Wy.start a)).2.1
  simpa [make, ol] using this
theorem make_siz (a b : List It) : siz (make a b) ≤ b.length := by
  have := (mk_all a a b 0 ([], 0) rfl (Wy.start a)).2.2
  simpa [make, siz] using this
theorem make_wy (a b : List It) : ∀ p ∈ make a b, (p.its = [] ∧ 0 ≤ p.at_ ∧ 0 < p.n ∧ p.at_ + p.n ≤ a.length) ∨ (p.its ≠ [] ∧ p.at_ = 0 ∧ p.n = 0) := by
  obtain ⟨e, h⟩ := (mk_all a a b 0 ([], 0) rfl (Wy.start a)).1
  exact h.ok
theorem make_self (a b : List It) : siz (make (a ++ b) a) = 0 := by
  unfold make
  by_cases h : a = []
  · subst h; rw [mk_nil]; rfl
  · have := mk_copy (c := a) b [] 0 (s := ([], 0)) h (by decide)
    rw [List.append_nil] at this
    rw [this, mk_nil]
    rfl
theorem make_none (b : List It) : siz (make [] b) = b.length := by
  unfold make
  by_cases h : b = []
  · subst h; rw [mk_nil]; rfl
  · have := mk_own (n := []) (xs := b) 0 [] (s := ([], 0)) (fun _ _ => by simp) h (by decide)
    rw [List.append_nil] at this
    rw [this, mk_nil]
    simp [siz]
theorem mk_len (n r : List It) (i : Nat) (s : List Pt × Nat) (a : List It) (hd : a.drop i = n) (h : Wy a i s) : (mk n r i s).length ≤ s.1.length + n.length + r.length := by
  induction n, r, i, s using mk.induct with
  | case1 i s => rw [mk]; simp
  | case2 y r i s ih =>
    rw [mk]
    have := ih hd (h.put y).1
    have hl : (put s y).1.length ≤ s.1.length + 1 := by
      unfold put; simp only; split
      · rename_i e; obtain ⟨o, z, hs, -⟩ := h.l2 e; rw [hs, mdl_snoc]; simp
      · simp
    simp only [List.length_cons]; omega
  | case3 x n i s ih =>
    rw [mk]
    have hi : i < a.length := by have := congrArg List.length hd; rw [List.length_drop, List.length_cons] at this; omega
    have := ih (by rw [← List.drop_drop, hd]; rfl) (h.skip hi)
    simp only [List.length_cons]; simp only at this; omega
  | case4 n x r i s ih =>
    rw [mk, if_pos rfl]
    have hi : i < a.length := by have := congrArg List.length hd; rw [List.length_drop, List.length_cons] at this; omega
    have := ih (by rw [← List.drop_drop, hd]; rfl) (h.stay hi).1
    have hl : (stay s i).1.length ≤ s.1.length + 1 := by
      unfold stay; simp only; split
      · rename_i e; obtain ⟨o, m, hs, -⟩ := h.l1 e; rw [hs, mdl_snoc]; simp
      · simp
    simp only [List.length_cons]; omega
  | case5 x n y r i s hne hy ih =>
    rw [mk, if_neg hne, if_pos hy]
    have hi : i < a.length := by have := congrArg List.length hd; rw [List.length_drop, List.length_cons] at this; omega
    have := ih (by rw [← List.drop_drop, hd]; rfl) (h.skip hi)
    simp only [List.length_cons]; simp only [List.length_cons] at this; omega
  | case6 x n y r i s hne hy ih =>
    rw [mk, if_neg hne, if_neg hy]
    have := ih hd (h.put y).1
    have hl : (put s y).1.length ≤ s.1.length + 1 := by
      unfold put; simp only; split
      · rename_i e; obtain ⟨o, z, hs, -⟩ := h.l2 e; rw [hs, mdl_snoc]; simp
      · simp
    simp only [List.length_cons] at *; omega
theorem make_len (a b : List It) : (make a b).length ≤ a.length + b.length := by
  have := mk_len a b 0 ([], 0) a rfl (Wy.start a)
  simpa [make] using this
end Go.Proofs.Ytmddikabilnokaa.Dl

namespace Go.Proofs.Ytmddikabilnokaa.Dl
set_option linter.unusedVariables false
set_option linter.unusedSimpArgs false
open Go.RowKit Go.Maps
open T
open I (It ItemsIn ItemsAt itCells itCells_snoc alloc1)

abbrev itV (x : It) : Value := .agg #[.int .i64 x.id, .int .i64 x.lv, .int .u64 (x.ct : Int), .bool x.an, .string ⟨x.tx.toArray⟩, .bool x.ba]
set_option maxRecDepth 100000 in
theorem it_eql (w : World) (x y : It) : (binOp .eql 44 (itV x) (itV y)).run Try.prog w = .ok (.bool (decide (x = y))) w := by
  have u1 := Try.underlying3
  have u2 := Try.underlying23
  have u3 := Try.underlying9
  have u4 := Try.underlying4
  have hS : Try.prog.underlying 44 = some (.struct (Try.prog.fieldsOf 44)) := by kernel_rfl
  have hp : Try.prog.stoodInHeld 44 = false := by kernel_rfl
  have HS1 : Hid (Try.prog.underlying 25 = some (.struct (Try.prog.fieldsOf 25))) := Lib.hid (by kernel_rfl)
  have hp1 : Try.prog.stoodInHeld 25 = false := by kernel_rfl
  have HS2 : Hid (Try.prog.underlying 42 = some (.struct (Try.prog.fieldsOf 42))) := Lib.hid (by kernel_rfl)
  have hp2 : Try.prog.stoodInHeld 42 = false := by kernel_rfl
  have z1 : Try.prog.cellsOf 3 = 1 := by kernel_rfl
  have z2 : Try.prog.cellsOf 23 = 1 := by kernel_rfl
  have z3 : Try.prog.cellsOf 9 = 1 := by kernel_rfl
  have z4 : Try.prog.cellsOf 4 = 1 := by kernel_rfl
  have z5 : Try.prog.cellsOf 25 = 2 := by kernel_rfl
  have z6 : Try.prog.cellsOf 42 = 2 := by kernel_rfl
  simp only [itV]
  rw [run_eql_struct, show (10000 : Nat) = 9997 + 1 + 1 + 1 from rfl]
  generalize (9997 : Nat) = d
  rw [run_equalIn_agg w (d + 1 + 1) 44 _ _ hS hp]
  simp only [Program.fieldsOf, Try.underlying44]
  clear hS
  go_simp
  obtain ⟨a1, a2, a3, a4, a5, a6⟩ := x
  obtain ⟨b1, b2, b3, b4, b5, b6⟩ := y
  by_cases h1 : a1 = b1 <;> by_cases h2 : a2 = b2 <;> by_cases h3 : a3 = b3 <;> by_cases h4 : a4 = b4 <;> by_cases h5 : a5 = b5 <;> by_cases h6 : a6 = b6 <;> simp_all <;> omega
theorem it_neq (w : World) (x y : It) : (binOp .neq 44 (itV x) (itV y)).run Try.prog w = .ok (.bool (!decide (x = y))) w := by
  have h := it_eql w x y
  simp only [binOp, Sem.run_bind] at h ⊢
  cases hr : (Op.equal 44 (itV x) (itV y)).run Try.prog w with
  | ok v w' =>
    rw [hr] at h
    simp only [Result.andThen_ok, Sem.run_pure, Result.ok.injEq, Value.bool.injEq] at h
    obtain ⟨rfl, rfl⟩ := h
    simp only [Result.andThen_ok, Sem.run_pure]
  | _ => rw [hr] at h; simp at h
/-! Items as keys. -/
/-- An item whose numbers are those of a machine. -/
structure Wi (x : It) : Prop where
  id : (Lit.int .i64 x.id).wf = true
  lv : (Lit.int .i64 x.lv).wf = true
  ct : (Lit.int .u64 (x.ct : Int)).wf = true
  tx : x.tx.length ≤ maxLen
def ik (x : It) : Lit := .string (keyBytes [.int .i64 x.id, .int .i64 x.lv, .int .u64 (x.ct : Int), .bool x.an, .string x.tx, .bool x.ba])
theorem itLaw : Keyed Try.prog 44 := Keyed.of_law (deep_law_laid (m := 3) (by kernel_rfl) (by omega) (of_decide_eq_true (by kernel_rfl)) (by kernel_rfl) (by kernel_rfl))
theorem typesSome3 : ∃ m, Try.prog.types.size = m + 1 + 1 + 1 := ⟨Try.prog.types.size - 3, of_decide_eq_true (by kernel_rfl)⟩
theorem itKT : Try.prog.keyType 44 = true := by kernel_rfl
theorem kInt : Try.prog.cellsOf 3 = 1 := by kernel_rfl
theorem kU64 : Try.prog.cellsOf 23 = 1 := by kernel_rfl
theorem kStr : Try.prog.cellsOf 9 = 1 := by kernel_rfl
theorem kBool : Try.prog.cellsOf 4 = 1 := by kernel_rfl
theorem kLab : Try.prog.cellsOf 25 = 2 := by kernel_rfl
theorem kLn : Try.prog.cellsOf 42 = 2 := by kernel_rfl
theorem kIt : Try.prog.cellsOf 44 = 6 := by kernel_rfl
theorem kl_int (d : Nat) {n : Int} (h : (Lit.int .i64 n).wf = true) : Try.prog.keyLits (d + 1) 3 [.int .i64 n] = some [.int .i64 n] := by
  simp [Program.keyLits, Try.underlying3, h]
theorem kl_u64 (d : Nat) {n : Int} (h : (Lit.int .u64 n).wf = true) : Try.prog.keyLits (d + 1) 23 [.int .u64 n] = some [.int .u64 n] := by
  simp [Program.keyLits, Try.underlying23, h]
theorem kl_bool (d : Nat) (b : Bool) : Try.prog.keyLits (d + 1) 4 [.bool b] = some [.bool b] := by
  simp [Program.keyLits, Try.underlying4]
theorem kl_str (d : Nat) {s : List UInt8} (h : s.length ≤ maxLen) : Try.prog.keyLits (d + 1) 9 [.string ⟨s.toArray⟩] = some [.string s] := by
  have hz : (⟨s.toArray⟩ : ByteArray).size ≤ maxLen := h
  simp [Program.keyLits, Try.underlying9, hz]
theorem kl_lab (d : Nat) {l : Int} {c : Int} (h : (Lit.int .i64 l).wf = true) (h2 : (Lit.int .u64 c).wf = true) : Try.prog.keyLits (d + 1 + 1) 25 [.int .i64 l, .int .u64 c] = some [.int .i64 l, .int .u64 c] := by
  unfold Program.keyLits
  simp only [Try.underlying25]
  rw [if_pos ⟨by rw [kLab]; rfl, by kernel_rfl⟩]
  simp [kInt, kU64, kl_int _ h, kl_u64 _ h2]
theorem kl_ln (d : Nat) {s : List UInt8} (b : Bool) (h : s.length ≤ maxLen) : Try.prog.keyLits (d + 1 + 1) 42 [.string ⟨s.toArray⟩, .bool b] = some [.string s, .bool b] := by
  unfold Program.keyLits
  simp only [Try.underlying42]
  rw [if_pos ⟨by rw [kLn]; rfl, by kernel_rfl⟩]
  simp [kStr, kBool, kl_str _ h, kl_bool]
theorem itKey {x : It} (h : Wi x) : keyOf Try.prog 44 (itV x) = some (ik x) := by
  obtain ⟨m, hm⟩ := typesSome3
  unfold keyOf itV
  simp only [Try.underlying44]
  rw [if_pos (by simp [itKT, Value.formed, Try.underlying44, kIt]), hm]
  unfold Program.keyLits
  simp only [Try.underlying44, Value.cells]
  rw [if_pos ⟨by rw [kIt]; rfl, by kernel_rfl⟩]
  simp [kInt, kU64, kStr, kBool, kLab, kLn, kl_int _ h.id, kl_lab _ h.lv h.ct, kl_bool, kl_ln _ _ h.tx, ik]
set_option maxRecDepth 100000 in
theorem ik_inj {x y : It} (hx : Wi x) (hy : Wi y) (h : ik x = ik y) : x = y := by
  have e1 := itKey hx
  have e2 := itKey hy
  rw [h] at e1
  have := itLaw.inj e1 e2
  obtain ⟨a1, a2, a3, a4, a5, a6⟩ := x
  obtain ⟨b1, b2, b3, b4, b5, b6⟩ := y
  simp only [itV, Value.agg.injEq, Array.mk.injEq, List.cons.injEq, Value.int.injEq, Value.string.injEq, Value.bool.injEq, and_true, true_and, ByteArray.mk.injEq] at this
  obtain ⟨q1, q2, q3, q4, q5, q6⟩ := this
  subst q1 q2 q4 q5 q6
  have : a3 = b3 := by omega
  subst this
  rfl
theorem zeroIn (w : World) : (zeroValue 3).run Try.prog w = .ok (.int .i64 0) w := by kernel_rfl
/-- Block mb is a map from items to numbers that reads as f, of at most n entries. -/
def MapIs (w : World) (mb n : Nat) (f : It → Int) : Prop :=
  ∃ D : DataW Unit, w.ownsMap Try.prog 44 (plainElem Try.prog 3) mb n D ∧ IsMap D ∧ ∀ k : It, Wi k → D.atKey (ik k) (.lit (.int .i64 0)) = .lit (.int .i64 (f k))
def upd (f : It → Int) (k : It) (v : Int) : It → Int := fun x => if x = k then v else f x
theorem MapIs.start (w : World) : MapIs (w.alloc (.map #[] 0)) w.heap.size 0 (fun _ => 0) :=
  ⟨.map [], World.ownsMap_made _ _ _ _, ⟨_, rfl⟩, fun _ _ => rfl⟩
theorem MapIs.kept {w w' : World} {mb n : Nat} {f : It → Int} {row : Option Nat} (h : MapIs w mb n f) (hg : w.grownBy w' row) (hne : some mb ≠ row) : MapIs w' mb n f := by
  obtain ⟨D, h1, h2, h3⟩ := h
  exact ⟨D, h1.kept hg hne, h2, h3⟩
theorem MapIs.lt {w : World} {mb n : Nat} {f : It → Int} (h : MapIs w mb n f) : mb < w.heap.size := by
  obtain ⟨D, h1, h2, h3⟩ := h
  exact h1.lt
theorem MapIs.notCells {w : World} {mb n : Nat} {f : It → Int} (h : MapIs w mb n f) {g : Nat} {cs : Array Value} {t : TypeId} {z : Nat × Nat} (hc : w.heap[g]? = some (.cells cs t z)) : g ≠ mb := by
  obtain ⟨D, ⟨es, _, hb, _⟩, _, _⟩ := h
  rintro rfl
  rw [hb] at hc
  cases hc
theorem MapIs.look {w : World} {mb n : Nat} {f : It → Int} (h : MapIs w mb n f) {t : TypeId} (ht : Try.prog.underlying t = some (.map 44 3)) {x : It} (hx : Wi x) :
    (Instr.lookup t (.map (some mb)) (itV x) false).run Try.prog w = .ok (.int .i64 (f x)) w := by
  obtain ⟨D, h1, h2, h3⟩ := h
  obtain ⟨c, hrun, hat, hwc⟩ := h1.lookup_int itLaw ht Try.underlying3 (zeroIn w) (itKey hx)
  rw [h3 x hx] at hat
  have e : f x = c := by simpa only [DataW.lit.injEq, Lit.int.injEq, true_and] using hat
  rw [e]
  exact hrun
theorem MapIs.put {w : World} {mb n : Nat} {f : It → Int} {D : DataW Unit} (h2 : IsMap D) (h3 : ∀ k : It, Wi k → D.atKey (ik k) (.lit (.int .i64 0)) = .lit (.int .i64 (f k))) {k : It} (hk : Wi k) {v : Int}
    (h1 : w.ownsMap Try.prog 44 (plainElem Try.prog 3) mb n (D.put (ik k) (.lit (.int .i64 v)))) : MapIs w mb n (upd f k v) := by
  refine ⟨_, h1, h1.isMap, fun x hx => ?_⟩
  by_cases e : x = k
  · subst e
    rw [atKey_put_same (k := ik x) h2 trivial, upd, if_pos rfl]
  · rw [atKey_put_other (fun q => e (ik_inj hx hk q)), h3 x hx, upd, if_neg e]
/-- A store, at the operation. -/
theorem wpList_put (w : World) {ops : Array Oper} {rest : List Oper} {o : Oper} {a : Act} {Q : Exit → Act → World → Prop} (hg : o.guard = none) (m x v : Operand) (t : TypeId) (hop : o.op = Op.mapUpdate t m x v)
    (ht : Try.prog.underlying t = some (.map 44 3)) (mb n : Nat) (f : It → Int) (hm : a.eval m = .map (some mb)) (h : MapIs w mb n f) (hn : n < maxLen) (k : It) (hk : Wi k) (z : Int) (hx : a.eval x = itV k) (hv : a.eval v = .int .i64 z) (hz : (Lit.int .i64 z).wf = true)
    (hK : ∀ w', MapIs w' mb (n + 1) (upd f k z) → w.grownBy w' (some mb) → wpList Try.prog ops Q rest (a.put o.dst undef) w') : wpList Try.prog ops Q (o :: rest) a w := by
  obtain ⟨D, h1, h2, h3⟩ := h
  exact wpList_mapUpdate_own w hg m x v t hop 44 3 itLaw ht _ mb n D hm h1 hn _ _ _ hx hv (itKey hk) _ [] (plainElem_int Try.underlying3 hz) (fun w' o1 g1 => hK w' (MapIs.put h2 h3 hk o1) g1)
end Go.Proofs.Ytmddikabilnokaa.Dl

namespace Go.Proofs.Ytmddikabilnokaa.RI
open Go.ChangeShapes Go.WideShapes Go.ChangeAt Go.RowKit Go.Deep Go.Joins

section
variable {H : Type} {enc : TypeId × Value → H} {w : World} {base : Nat} {spare : Nat → Bool} {held : Bool} {fuel : Nat} {cs : List Value} {x : DataW H × List MemPlace}
theorem wf_i64 {n : Int} (h : -9223372036854775808 ≤ n ∧ n ≤ 9223372036854775807) : (Lit.int .i64 n).wf = true := by
  simp [Lit.wf, IntKind.min, IntKind.max, IntKind.signed, IntKind.bits]; omega
theorem wf_u64 {n : Nat} (h : n < 18446744073709551616) : (Lit.int .u64 (n : Int)).wf = true := by
  simp [Lit.wf, IntKind.min, IntKind.max, IntKind.signed, IntKind.bits]; omega
/-- An item's six cells. -/
theorem item_readW (hl : cs.length = 6) (h : DataW.trod enc Try.prog w base spare held fuel 44 cs = some x) : ∃ u : I.It, cs = [.int .i64 u.id, .int .i64 u.lv, .int .u64 (u.ct : Int), .bool u.an, .string ⟨u.tx.toArray⟩, .bool u.ba] ∧ u.ct < 18446744073709551616 ∧ u.tx.length ≤ maxLen ∧ Dl.Wi u := by
  obtain ⟨c0, c1, c2, c3, c4, c5, rfl⟩ := list6 hl
  obtain ⟨n, y0, y1, y2, y3, h0, h1, h2, h3⟩ := item_fields h
  obtain ⟨i, e0, -, w0⟩ := DataW.trod_int Try.underlying3 h0
  obtain ⟨l, k, e1, hk, hl1, hl2⟩ := RP.label_read h1
  obtain ⟨an, e2, -⟩ := DataW.trod_bool Try.underlying4 h2
  obtain ⟨s, ba, e3, hz⟩ := line_read h3
  have e0' : c0 = .int .i64 i := by injection e0
  have e2' : c3 = .bool an := by injection e2
  have e1' : c1 = .int .i64 l ∧ c2 = .int .u64 (k : Int) := by injection e1 with p q; injection q with q; exact ⟨p, q⟩
  have e3' : c4 = .string s ∧ c5 = .bool ba := by injection e3 with p q; injection q with q; exact ⟨p, q⟩
  exact ⟨⟨i, l, k, an, s.data.toList, ba⟩, by rw [e0', e1'.1, e1'.2, e2', e3'.1, e3'.2], hk, by show s.data.toList.length ≤ maxLen; rw [← Lib.size_eq]; exact hz, ⟨w0, wf_i64 ⟨hl1, hl2⟩, wf_u64 hk, by show s.data.toList.length ≤ maxLen; rw [← Lib.size_eq]; exact hz⟩⟩
theorem items_readW (h : DataW.trod enc Try.prog w base spare held fuel 22 cs = some x) : ∃ (A : Option Addr) (cap : Nat) (us : List I.It), cs = [.slice A us.length cap] ∧ I.ItemsIn w A us ∧ I.ItemsOk us ∧ (∀ x ∈ us, Dl.Wi x) := by
  rcases open_slice Try.underlying22 h with ⟨hcs, hx⟩ | ⟨a, len, cap, m, n, D, Pl, hcs, _, hl, hm, hmm, hx, hcell⟩
  · exact ⟨none, 0, [], hcs, fun h => absurd h (by simp), ⟨Nat.zero_le _, fun x hx => (by cases hx), fun x hx => (by cases hx)⟩, fun x hx => (by cases hx)⟩
  have hle : len ≤ m := by rw [hmm]; split <;> omega
  obtain ⟨f, hf⟩ := choose_lt (n := len) (p := fun i (u : I.It) => (w.cell? (a.add (i * 6 + 0)) = some (.int .i64 u.id) ∧ w.cell? (a.add (i * 6 + 1)) = some (.int .i64 u.lv) ∧ w.cell? (a.add (i * 6 + 2)) = some (.int .u64 (u.ct : Int)) ∧ w.cell? (a.add (i * 6 + 3)) = some (.bool u.an) ∧ w.cell? (a.add (i * 6 + 4)) = some (.string ⟨u.tx.toArray⟩) ∧ w.cell? (a.add (i * 6 + 5)) = some (.bool u.ba)) ∧ u.ct < 18446744073709551616 ∧ u.tx.length ≤ maxLen ∧ Dl.Wi u) (fun i hi => by
    obtain ⟨cs', c1, c2⟩ := hcell i (by omega)
    rw [cItem] at c1
    obtain ⟨_, hlen, hat⟩ := World.cells?_some c1
    obtain ⟨u, rfl, hu⟩ := item_readW (by simpa using hlen) c2
    have q0 := hat 0 (by omega)
    have q1 := hat 1 (by omega)
    have q2 := hat 2 (by omega)
    have q3 := hat 3 (by omega)
    have q4 := hat 4 (by omega)
    have q5 := hat 5 (by omega)
    rw [Go.Deep.add_add] at q0 q1 q2 q3 q4 q5
    exact ⟨u, ⟨q0, q1, q2, q3, q4, q5⟩, hu⟩)
  have htl : ((List.range len).map f).length = len := by simp
  refine ⟨some a, cap, (List.range len).map f, by rw [htl, hcs], fun hp => ?_, ⟨by rw [htl]; omega, fun u hu => ?_, fun u hu => ?_⟩, fun u hu => ?_⟩
  · rw [htl] at hp
    obtain ⟨bk, off, spot⟩ := a
    have hspot : spot = none := by simpa [Addr.add] using World.cell?_spot (hf 0 hp).1.1
    subst hspot
    have h0 := (hf 0 hp).1.1
    refine ⟨bk, off, rfl, World.block_lt_of_cell? w _ h0, fun j hj => ?_⟩
    rw [htl] at hj
    have := (hf j hj).1
    simp only [add_plain, ← Nat.add_assoc, Nat.add_zero] at this
    simp only [List.getElem_map, List.getElem_range]
    exact this
  · obtain ⟨i, hi, rfl⟩ := List.mem_map.1 hu
    exact (hf i (List.mem_range.1 hi)).2.2.1
  · obtain ⟨i, hi, rfl⟩ := List.mem_map.1 hu
    exact (hf i (List.mem_range.1 hi)).2.1
  · obtain ⟨i, hi, rfl⟩ := List.mem_map.1 hu
    exact (hf i (List.mem_range.1 hi)).2.2.2
set_option maxRecDepth 100000 in
theorem items_argW {r : Reach} {b0 : Nat} {v : Value} {d : DataW H} {p : List MemPlace} (hv : Value.okWide Try.prog w r b0 22 v) (h : DataW.Trod enc Try.prog w base spare held 22 v d p) :
    ∃ (A : Option Addr) (cap : Nat) (us : List I.It), v = .slice A us.length cap ∧ I.ItemsIn w A us ∧ I.ItemsOk us ∧ (∀ x ∈ us, Dl.Wi x) := by
  obtain ⟨a0, len, cap, rfl⟩ := okWide_slice Try.underlying22 hv
  obtain ⟨fuel, hf⟩ := h
  obtain ⟨A, cap', us, hcs, r⟩ := items_readW hf
  simp only [Value.cells, List.cons.injEq, Value.slice.injEq, and_true] at hcs
  obtain ⟨rfl, rfl, rfl⟩ := hcs
  exact ⟨_, _, us, rfl, r⟩
end
set_option maxRecDepth 100000 in
theorem items_capW {H : Type} {enc : TypeId × Value → H} {W : World} {base : Nat} {sp : Nat → Bool} {held : Bool} {A : Option Addr} {n cap : Nat} {d : DataW H} {p : List MemPlace}
    (h : DataW.Trod enc Try.prog W base sp held 22 (.slice A n cap) d p) : n ≤ cap ∧ (A = none → cap = 0) ∧ cap ≤ maxLen := by
  obtain ⟨fuel, hf⟩ := h
  rcases open_slice Try.underlying22 hf with ⟨hcs, _⟩ | ⟨a, len', cap', _, _, _, _, hcs, _, hl, hm, _⟩
  · simp only [Value.cells, List.cons.injEq, Value.slice.injEq, and_true] at hcs
    obtain ⟨rfl, rfl, rfl⟩ := hcs
    exact ⟨Nat.le_refl _, fun _ => rfl, Nat.zero_le _⟩
  · simp only [Value.cells, List.cons.injEq, Value.slice.injEq, and_true] at hcs
    obtain ⟨rfl, rfl, rfl⟩ := hcs
    exact ⟨hl, (fun h => by cases h), hm⟩
end Go.Proofs.Ytmddikabilnokaa.RI
