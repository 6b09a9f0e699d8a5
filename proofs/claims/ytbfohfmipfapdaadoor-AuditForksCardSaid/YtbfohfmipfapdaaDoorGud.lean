/-
  Entries in memory; a log's row, of its own or full and shared; append of an entry to it.
  Small facts on texts as bytes; the contracts of text.Number and text.Decimal in closed form.
  The contracts of the reference's Number, Name and Decimal: they come to the same plain functions as the program's own.
  The contracts of audit's Check and of the reference's.
  The contracts of a log's Add, the code's and the reference's; of New, Len and Fork.
-/
import Derived.Test.YtbfohfmipfapdaaDoorGuc
import Derived.Laws.StructEq
import Derived.Maps.AppendAt
import Derived.Deep.AppendLies
import Derived.BigQuiet
import Derived.Test.YtbfohfmipfapdaaDoorGua
import Derived.Test.YtbfohfmipfapdaaDoorGub
import Derived.Deep.RegionWith
import Derived.Deep.RegionHeldLaw
import Derived.Laws.OwnMore
namespace Go.Proofs.YtbfohfmipfapdaaDoor.Au
set_option linter.unusedVariables false
set_option linter.unusedSimpArgs false
open Go.RowKit
open T
open V (drawn_below grown_of)
open I (alloc1 own_at own_below)

abbrev etV (e : Et) : Value := .agg #[.string e.us, .int .i64 e.lv, .int .u64 (e.ct : Int), .string e.ve, .string e.fi, .string e.oc]
theorem infoEt : (Tryd.prog.info? 40).map (fun i => (i.zero, i.size, i.bytes)) = some (some (.agg #[.string ⟨#[]⟩, .int .i64 0, .int .u64 0, .string ⟨#[]⟩, .string ⟨#[]⟩, .string ⟨#[]⟩]), 6, 80) := by kernel_rfl
/-- What of an entry a call may rely on. -/
structure EtOk (e : Et) : Prop where
  us : e.us.size ≤ maxLen
  ve : e.ve.size ≤ maxLen
  fi : e.fi.size ≤ maxLen
  oc : e.oc.size ≤ maxLen
  ct : e.ct < 18446744073709551616
theorem tl_inj (a b : ByteArray) : a.toList = b.toList ↔ a = b := by
  constructor
  · intro h
    apply ByteArray.ext
    apply Array.toList_inj.1
    rw [Lib.toList_data, Lib.toList_data] at h
    exact h
  · rintro rfl; rfl
set_option maxRecDepth 100000 in
theorem et_eql (w : World) (x y : Et) : (binOp .eql 40 (etV x) (etV y)).run Tryd.prog w = .ok (.bool (decide (x = y))) w := by
  have u1 := Tryd.underlying3
  have u2 := Tryd.underlying23
  have u3 := Tryd.underlying9
  have hS : Tryd.prog.underlying 40 = some (.struct (Tryd.prog.fieldsOf 40)) := by kernel_rfl
  have hp : Tryd.prog.stoodInHeld 40 = false := by kernel_rfl
  have HS1 : Hid (Tryd.prog.underlying 25 = some (.struct (Tryd.prog.fieldsOf 25))) := Lib.hid (by kernel_rfl)
  have hp1 : Tryd.prog.stoodInHeld 25 = false := by kernel_rfl
  have z1 : Tryd.prog.cellsOf 3 = 1 := by kernel_rfl
  have z2 : Tryd.prog.cellsOf 23 = 1 := by kernel_rfl
  have z3 : Tryd.prog.cellsOf 9 = 1 := by kernel_rfl
  have z5 : Tryd.prog.cellsOf 25 = 2 := by kernel_rfl
  simp only [etV]
  rw [run_eql_struct, show (10000 : Nat) = 9997 + 1 + 1 + 1 from rfl]
  generalize (9997 : Nat) = d
  rw [run_equalIn_agg w (d + 1 + 1) 40 _ _ hS hp]
  simp only [Program.fieldsOf, Tryd.underlying40]
  clear hS
  go_simp
  obtain ⟨a1, a2, a3, a4, a5, a6⟩ := x
  obtain ⟨b1, b2, b3, b4, b5, b6⟩ := y
  by_cases h1 : a1 = b1 <;> by_cases h2 : a2 = b2 <;> by_cases h3 : a3 = b3 <;> by_cases h4 : a4 = b4 <;> by_cases h5 : a5 = b5 <;> by_cases h6 : a6 = b6 <;> simp_all [tl_inj]
  all_goals omega
theorem et_neq (w : World) (x y : Et) : (binOp .neq 40 (etV x) (etV y)).run Tryd.prog w = .ok (.bool (!decide (x = y))) w := by
  have h := et_eql w x y
  simp only [binOp, Sem.run_bind] at h ⊢
  cases hr : (Op.equal 40 (etV x) (etV y)).run Tryd.prog w with
  | ok v w' =>
    rw [hr] at h
    simp only [Result.andThen_ok, Sem.run_pure, Result.ok.injEq, Value.bool.injEq] at h
    obtain ⟨rfl, rfl⟩ := h
    simp only [Result.andThen_ok, Sem.run_pure]
  | _ => rw [hr] at h; simp at h
/-- The cells of entries. -/
def etCells (xs : List Et) : List Value := xs.flatMap fun e => [.string e.us, .int .i64 e.lv, .int .u64 (e.ct : Int), .string e.ve, .string e.fi, .string e.oc]
theorem etCells_snoc (xs : List Et) (e : Et) : etCells (xs ++ [e]) = etCells xs ++ [.string e.us, .int .i64 e.lv, .int .u64 (e.ct : Int), .string e.ve, .string e.fi, .string e.oc] := by simp [etCells]
theorem etCells_length : ∀ xs : List Et, (etCells xs).length = xs.length * 6
  | [] => rfl
  | x :: r => by
    have e : etCells (x :: r) = .string x.us :: .int .i64 x.lv :: .int .u64 (x.ct : Int) :: .string x.ve :: .string x.fi :: .string x.oc :: etCells r := by simp [etCells]
    rw [e]; simp only [List.length_cons, etCells_length r]; omega
theorem etCells_one (a : List Et) : ∀ u ∈ etCells a, u.oneCell' = true := by
  intro u hu
  simp only [etCells, List.mem_flatMap] at hu
  obtain ⟨x, _, hu⟩ := hu
  simp at hu
  rcases hu with rfl | rfl | rfl | rfl | rfl | rfl <;> rfl
def EtsAt (w : World) (bk off : Nat) (xs : List Et) : Prop :=
  ∀ j (h : j < xs.length), w.cell? ⟨bk, off + j * 6, none⟩ = some (.string xs[j].us) ∧ w.cell? ⟨bk, off + j * 6 + 1, none⟩ = some (.int .i64 xs[j].lv) ∧ w.cell? ⟨bk, off + j * 6 + 2, none⟩ = some (.int .u64 (xs[j].ct : Int)) ∧ w.cell? ⟨bk, off + j * 6 + 3, none⟩ = some (.string xs[j].ve) ∧ w.cell? ⟨bk, off + j * 6 + 4, none⟩ = some (.string xs[j].fi) ∧ w.cell? ⟨bk, off + j * 6 + 5, none⟩ = some (.string xs[j].oc)
/-- A slice's entries, wherever it lies. -/
def EtsIn (w : World) (A : Option Addr) (xs : List Et) : Prop :=
  0 < xs.length → ∃ bk off, A = some ⟨bk, off, none⟩ ∧ bk < w.heap.size ∧ EtsAt w bk off xs
theorem EtsAt.keep {w w' : World} {bk off : Nat} {xs : List Et} (h : EtsAt w bk off xs) (hb : w'.heap[bk]? = w.heap[bk]?) : EtsAt w' bk off xs := fun j hj => by
  obtain ⟨h0, h1, h2, h3, h4, h5⟩ := h j hj
  have e : ∀ o, w'.cell? ⟨bk, o, none⟩ = w.cell? ⟨bk, o, none⟩ := fun o => World.cell?_of_block (a := ⟨bk, o, none⟩) hb
  exact ⟨(e _).trans h0, (e _).trans h1, (e _).trans h2, (e _).trans h3, (e _).trans h4, (e _).trans h5⟩
theorem EtsIn.below {w w' : World} {A : Option Addr} {xs : List Et} (h : EtsIn w A xs) (hb : Below w.heap.size w w') : EtsIn w' A xs := fun hp => by
  obtain ⟨bk, off, e, hlt, hl⟩ := h hp
  exact ⟨bk, off, e, Nat.lt_of_lt_of_le hlt hb.size, hl.keep (hb.block bk hlt)⟩
theorem EtsIn.nil (w : World) (A : Option Addr) : EtsIn w A [] := fun h => absurd h (by simp)
theorem et_at {w : World} {A : Option Addr} {l : List Et} (h : EtsIn w A l) {k : Nat} (hk : k < l.length) : ∃ bk off, A = some ⟨bk, off, none⟩ ∧ bk < w.heap.size ∧ w.cell? ⟨bk, off + k * 6, none⟩ = some (.string l[k].us) ∧ w.cell? ⟨bk, off + k * 6 + 1, none⟩ = some (.int .i64 l[k].lv) ∧ w.cell? ⟨bk, off + k * 6 + 2, none⟩ = some (.int .u64 (l[k].ct : Int)) ∧ w.cell? ⟨bk, off + k * 6 + 3, none⟩ = some (.string l[k].ve) ∧ w.cell? ⟨bk, off + k * 6 + 4, none⟩ = some (.string l[k].fi) ∧ w.cell? ⟨bk, off + k * 6 + 5, none⟩ = some (.string l[k].oc) := by
  obtain ⟨bk, off, e, h1, h2⟩ := h (by omega)
  exact ⟨bk, off, e, h1, h2 k hk⟩
theorem etCells_at : ∀ (xs : List Et) (j : Nat) (h : j < xs.length), (etCells xs)[j * 6]? = some (.string xs[j].us) ∧ (etCells xs)[j * 6 + 1]? = some (.int .i64 xs[j].lv) ∧ (etCells xs)[j * 6 + 2]? = some (.int .u64 (xs[j].ct : Int)) ∧ (etCells xs)[j * 6 + 3]? = some (.string xs[j].ve) ∧ (etCells xs)[j * 6 + 4]? = some (.string xs[j].fi) ∧ (etCells xs)[j * 6 + 5]? = some (.string xs[j].oc)
  | x :: r, 0, _ => by simp [etCells]
  | x :: r, j + 1, h => by
    have ih := etCells_at r j (by simpa using h)
    have e : etCells (x :: r) = .string x.us :: .int .i64 x.lv :: .int .u64 (x.ct : Int) :: .string x.ve :: .string x.fi :: .string x.oc :: etCells r := by simp [etCells]
    rw [e, show (j + 1) * 6 = j * 6 + 1 + 1 + 1 + 1 + 1 + 1 by omega]
    simpa using ih
theorem ets_own {w : World} {base : Nat} {A : Option Addr} {cap : Nat} {xs : List Et} (h : w.ownsRow base 40 6 (.slice A xs.length cap) xs.length (etCells xs)) : EtsIn w A xs := fun hp => by
  obtain ⟨g, hA, _, hlt, hc⟩ := own_at h hp
  refine ⟨g, 0, hA, hlt, fun j hj => ?_⟩
  obtain ⟨h0, h1, h2, h3, h4, h5⟩ := etCells_at xs j hj
  rw [Nat.zero_add]
  exact ⟨hc _ _ h0, hc _ _ h1, hc _ _ h2, hc _ _ h3, hc _ _ h4, hc _ _ h5⟩
/-- The cells of a row that lies anywhere. -/
theorem ets_news {w : World} {bk off : Nat} {xs : List Et} (h : EtsAt w bk off xs) : ∀ j u, (etCells xs)[j]? = some u → w.cell? ((⟨bk, off, none⟩ : Addr).add j) = some u := by
  intro j u hu
  have hj : j < xs.length * 6 := by rw [← etCells_length]; exact (List.getElem?_eq_some_iff.1 hu).1
  have hq : j / 6 < xs.length := by omega
  obtain ⟨h0, h1, h2, h3, h4, h5⟩ := etCells_at xs (j / 6) hq
  obtain ⟨c0, c1, c2, c3, c4, c5⟩ := h (j / 6) hq
  have hm : j % 6 < 6 := Nat.mod_lt _ (by omega)
  rw [show (⟨bk, off, none⟩ : Addr).add j = ⟨bk, off + j, none⟩ by simp [Addr.add]]
  have key : ∀ r, j % 6 = r → j = j / 6 * 6 + r := fun r hr => by omega
  match hr : j % 6, hm with
  | 0, _ => rw [key 0 hr, Nat.add_zero] at hu ⊢; rw [h0] at hu; rw [c0]; exact hu
  | 1, _ => rw [key 1 hr] at hu ⊢; rw [h1] at hu; rw [← Nat.add_assoc, c1]; exact hu
  | 2, _ => rw [key 2 hr] at hu ⊢; rw [h2] at hu; rw [← Nat.add_assoc, c2]; exact hu
  | 3, _ => rw [key 3 hr] at hu ⊢; rw [h3] at hu; rw [← Nat.add_assoc, c3]; exact hu
  | 4, _ => rw [key 4 hr] at hu ⊢; rw [h4] at hu; rw [← Nat.add_assoc, c4]; exact hu
  | 5, _ => rw [key 5 hr] at hu ⊢; rw [h5] at hu; rw [← Nat.add_assoc, c5]; exact hu
/-- A log's row: of its own, so that it grows in place (r: its block), or full and shared. -/
def Rw (w : World) (base : Nat) (r : Option Nat) (v : Value) (l : List Et) : Prop :=
  (w.ownsRow base 40 6 v l.length (etCells l) ∧ r = v.ownBlock) ∨ (∃ A, v = .slice A l.length l.length ∧ EtsIn w A l ∧ (A = none → l = []) ∧ r = none)
theorem Rw.form {w : World} {base : Nat} {r : Option Nat} {v : Value} {l : List Et} (h : Rw w base r v l) : ∃ A c, v = .slice A l.length c ∧ l.length ≤ c ∧ EtsIn w A l := by
  rcases h with ⟨h, -⟩ | ⟨A, rfl, h, -⟩
  · obtain ⟨A, c, rfl, hc, -⟩ := own_form h
    exact ⟨A, c, rfl, hc, ets_own h⟩
  · exact ⟨A, _, rfl, Nat.le_refl _, h⟩
theorem run_append_rw {w : World} {base : Nat} {r : Option Nat} {v : Value} {l : List Et} (h : Rw w base r v l) (x : Et) (ad : Addr) (c : Nat) (ty : TypeId) (hnews : ∀ j u, (etCells [x])[j]? = some u → w.cell? (ad.add j) = some u) (hl : l.length ≤ 1000000) (hbase : base ≤ w.heap.size) (H : Nat) (hH : w.heap.size = H) :
    ∃ g cap w', (Builtin.append_ #[22, 22] ty #[v, .slice (some ad) 1 c]).run Tryd.prog w = .ok (.slice (some ⟨g, 0, none⟩) (l.length + 1) cap) w' ∧ w'.ownsRow base 40 6 (.slice (some ⟨g, 0, none⟩) (l.length + 1) cap) (l.length + 1) (etCells (l ++ [x])) ∧ w.grownBy w' r ∧ (r = some g ∨ g = H) ∧ g < w'.heap.size := by
  obtain ⟨i0, hi0, hz0, hz1, hz2⟩ := info_parts infoEt
  have e1 : etCells (l ++ [x]) = etCells l ++ etCells [x] := by simp [etCells]
  have own : ∀ {r' : Option Nat}, w.ownsRow base 40 6 v l.length (etCells l) → r' = v.ownBlock → ∃ g cap w', (Builtin.append_ #[22, 22] ty #[v, .slice (some ad) 1 c]).run Tryd.prog w = .ok (.slice (some ⟨g, 0, none⟩) (l.length + 1) cap) w' ∧ w'.ownsRow base 40 6 (.slice (some ⟨g, 0, none⟩) (l.length + 1) cap) (l.length + 1) (etCells (l ++ [x])) ∧ w.grownBy w' r' ∧ (r' = some g ∨ g = H) ∧ g < w'.heap.size := by
    rintro r' h1 rfl
    rw [e1]
    exact run_append_lies w 22 ty base 40 i0 _ 6 80 Tryd.underlying22 hi0 hz0 hz1 hz2 rfl (by decide) v l.length (etCells l) h1 ad 1 c (etCells [x]) (etCells_length [x]) hnews (etCells_one _) (by omega) (by unfold maxLen; omega) (by omega) hbase H hH
  rcases h with ⟨h, hr⟩ | ⟨A, rfl, hI, hA0, rfl⟩
  · exact own h hr
  · cases A with
    | none =>
      obtain rfl := hA0 rfl
      exact own (World.ownsRow_nil _ _ _ _) rfl
    | some b =>
      have holds : ∀ j u, (etCells l)[j]? = some u → w.cell? (b.add j) = some u := by
        by_cases hp : 0 < l.length
        · obtain ⟨bk, off, e, _, hE⟩ := hI hp
          injection e with e
          subst e
          exact ets_news hE
        · intro j u hu
          have := (List.getElem?_eq_some_iff.1 hu).1
          rw [etCells_length] at this
          omega
      have hr := run_append_grow (P := Tryd.prog) w 22 ty 40 i0 _ Tryd.underlying22 hi0 hz0 b l.length l.length (etCells l) (by rw [hz1]; exact etCells_length l) holds ad 1 c (etCells [x]) (by rw [hz1]; exact etCells_length [x]) hnews (by omega) (by omega) (growslice_fits (by omega) (by rw [hz2]; omega))
      have hge := grownCap_ge w (l.length + 1) l.length 40
      have hcm : grownCap w (l.length + 1) l.length 40 ≤ maxLen := grownCap_le_maxLen w (l.length + 1) l.length 40 (by unfold maxLen; omega)
      refine ⟨_, _, _, hr, ⟨by rw [etCells_length]; simp, .inr ⟨w.heap.size, _, _, rfl, hbase, heap_alloc_new w.drew _, hge, hcm, ?_, ?_⟩⟩, ⟨rfl, rfl, rfl, by simp, fun k hk _ => Below.heap_alloc w.drew _ k hk⟩, .inr hH, by simp⟩
      · simp only [Array.size_append, List.size_toArray, size_zeroCells, etCells_length, List.length_singleton]
        have : ∀ z : Array Value, z.size = 6 → l.length * 6 + 1 * 6 + (grownCap w (l.length + 1) l.length 40 - (l.length + 1)) * z.size = grownCap w (l.length + 1) l.length 40 * 6 := fun z hz => by rw [hz]; omega
        exact this _ rfl
      · simp only [Array.toList_append, List.append_assoc]
        rw [e1, ← List.append_assoc, show (l.length + 1) * 6 = (etCells l ++ etCells [x]).length by rw [← e1, etCells_length]; simp]
        exact List.take_left
/-- .. at a step of a region that draws its order. -/
theorem step_append_rw {w : World} {ops : Array Oper} {o : Oper} {a : Act} {K : Act → World → Prop} {Q : Exit → Act → World → Prop} {E : Prop} (hgd : o.guard = none) (s x : Operand)
    (ho : o.op = .call { callee := .builtin .append, args := #[s, x], argTypes := #[22, 22] })
    {base : Nat} {r : Option Nat} {v : Value} {l : List Et} (hs : a.eval s = v) (hR : Rw w base r v l) (y : Et) (ad : Addr) (c : Nat) (hx : a.eval x = .slice (some ad) 1 c) (hnews : ∀ j u, (etCells [y])[j]? = some u → w.cell? (ad.add j) = some u) (hl : l.length ≤ 1000000) (hbase : base ≤ w.heap.size) (H : Nat) (hH : w.heap.size = H)
    (h : ∀ g cap w', w'.ownsRow base 40 6 (.slice (some ⟨g, 0, none⟩) (l.length + 1) cap) (l.length + 1) (etCells (l ++ [y])) → w.grownBy w' r → (r = some g ∨ g = H) → g < w'.heap.size → K (a.put o.dst (.slice (some ⟨g, 0, none⟩) (l.length + 1) cap)) w') :
    if Region.wanted o (yielded ops a.tmps) = true then Oper.wp Tryd.prog o a w K Q else E := by
  have hw : Region.wanted o (yielded ops a.tmps) = true := by simp [Region.wanted, hgd]
  rw [if_pos hw]
  obtain ⟨g, cap, w', hr, h2, h3, h4, h5⟩ := run_append_rw hR y ad c o.type hnews hl hbase H hH
  unfold Oper.wp execOp
  simp only [ho, resolve, invoke, builtin, Sem.run_bind, Sem.run_pure, Result.andThen_ok, List.map_toArray, List.map_cons, List.map_nil, hs, hx, hr]
  exact h g cap w' h2 h3 h4 h5
/-! What a call leaves that may write to a log's box b and to its row r alone. -/
structure Kp (w w' : World) (b : Nat) (r : Option Nat) : Prop where
  os : w'.os = w.os
  tape : w'.tape = w.tape
  output : w'.output = w.output
  size : w.heap.size ≤ w'.heap.size
  block : ∀ k, k < w.heap.size → k ≠ b → some k ≠ r → w'.heap[k]? = w.heap[k]?
theorem Kp.of {w w' : World} (h : Below w.heap.size w w') (b : Nat) (r : Option Nat) : Kp w w' b r := ⟨h.os, h.tape, h.output, h.size, fun k hk _ _ => h.block k hk⟩
theorem Kp.grown {w w' : World} {r : Option Nat} (h : w.grownBy w' r) (b : Nat) : Kp w w' b r := ⟨h.os, h.tape, h.output, h.size, fun k hk _ hr => h.block k hk hr⟩
theorem Kp.set (w : World) (b : Nat) (v : Value) (r : Option Nat) : Kp w (w.setCell ⟨b, 0, none⟩ v) b r := ⟨rfl, rfl, rfl, by simp [World.setCell], fun k _ hk _ => Below.heap_setCell _ _ _ _ (fun e => hk e)⟩
theorem Kp.trans {w w1 w2 : World} {b : Nat} {r r' : Option Nat} (h : Kp w w1 b r) (h2 : Kp w1 w2 b r') (hr : r' = r ∨ ∃ g, r' = some g ∧ w.heap.size ≤ g) : Kp w w2 b r :=
  ⟨h2.os.trans h.os, h2.tape.trans h.tape, h2.output.trans h.output, Nat.le_trans h.size h2.size, fun k hk hb hkr => (h2.block k (Nat.lt_of_lt_of_le hk h.size) hb (by
    rcases hr with rfl | ⟨g, rfl, hg⟩
    · exact hkr
    · intro e; injection e with e; omega)).trans (h.block k hk hb hkr)⟩
theorem Kp.ets {w w' : World} {b : Nat} {r : Option Nat} {A : Option Addr} {l : List Et} (h : Kp w w' b r) (hI : EtsIn w A l) (hb : 0 < l.length → ∀ ad, A = some ad → ad.block ≠ b ∧ some ad.block ≠ r) : EtsIn w' A l := fun hp => by
  obtain ⟨bk, off, e, hlt, hl⟩ := hI hp
  exact ⟨bk, off, e, Nat.lt_of_lt_of_le hlt h.size, hl.keep (h.block bk hlt (hb hp _ e).1 (hb hp _ e).2)⟩
theorem Kp.below {w w' : World} {b n : Nat} {r : Option Nat} (h : Kp w w' b r) (hb : n ≤ b) (hr : ∀ g, r = some g → n ≤ g) (hn : n ≤ w.heap.size) : Below n w w' :=
  ⟨h.os, h.tape, h.output, h.size, fun k hk => h.block k (by omega) (by omega) (fun e => by have := hr k e.symm; omega)⟩
end Go.Proofs.YtbfohfmipfapdaaDoor.Au

namespace Go.Proofs.YtbfohfmipfapdaaDoor.T
open Go.RowKit

theorem list_data (l : List UInt8) : (⟨l.toArray⟩ : ByteArray).data.toList = l := by simp
theorem list_size (l : List UInt8) : (⟨l.toArray⟩ : ByteArray).size = l.length := by simp [ByteArray.size]
theorem str_eta (s : ByteArray) : (⟨s.data.toList.toArray⟩ : ByteArray) = s := by cases s; simp

def Dec (n : Int) (s : ByteArray) : Prop := ∀ w : World, Tab w → Calls Tryd.prog 36 #[.int .i64 n] w fun e w' => e = .returned (.string s) ∧ Below w.heap.size w w'
theorem Dec.call {n : Int} {s : ByteArray} (h : Dec n s) (w : World) (ht : Tab w) : Calls Tryd.prog 36 #[.int .i64 n] w fun e w' => e = .returned (.string s) ∧ Below w.heap.size w w' := h w ht
theorem dec_is (n : Int) (h0 : -9223372036854775808 ≤ n) (h1 : n ≤ 9223372036854775807) : Dec n ⟨(P.decimal n).toArray⟩ := fun w ht => decimal_any n w h0 h1 ht
end Go.Proofs.YtbfohfmipfapdaaDoor.T

namespace Go.Proofs.YtbfohfmipfapdaaDoor.T
open Go.RowKit

theorem val_bad (s : ByteArray) (k n : Nat) (hk : k < s.size) (h : (s[k].toNat : Int) < 48 ∨ 57 < (s[k].toNat : Int)) : P.valGo (s.data.toList.drop k) n = none := by
  have hl : k < s.data.toList.length := by rw [← Lib.size_eq]; exact hk
  rw [List.drop_eq_getElem_cons hl, P.valGo, if_pos (by rw [byte s k hk hl]; omega)]
theorem val_on (s : ByteArray) (k n : Nat) (hk : k < s.size) (h1 : 48 ≤ (s[k].toNat : Int)) (h2 : (s[k].toNat : Int) ≤ 57) :
    P.valGo (s.data.toList.drop k) n = P.valGo (s.data.toList.drop (k + 1)) (10 * n + (s[k].toNat - 48)) := by
  have hl : k < s.data.toList.length := by rw [← Lib.size_eq]; exact hk
  have e := byte s k hk hl
  rw [List.drop_eq_getElem_cons hl, P.valGo, if_neg (by rw [e]; omega), e]
theorem val_end (s : ByteArray) (n : Nat) : P.valGo (s.data.toList.drop s.size) n = some n := by
  rw [Lib.size_eq, List.drop_length, P.valGo]
theorem pow_bound {n d k : Nat} (h : n < 10 ^ k) (hd : d < 10) (hk : k < 10) : 10 * n + d < 10 ^ (k + 1) ∧ 10 * n + d ≤ 9999999999 := by
  have h1 : 10 * n + d < 10 ^ (k + 1) := by rw [Nat.pow_succ]; omega
  have h2 : 10 ^ (k + 1) ≤ 10 ^ 10 := Nat.pow_le_pow_right (by omega) (by omega)
  omega
theorem number_val (s : ByteArray) (h : 0 < s.size) (h0 : s.size ≤ 1 ∨ ¬ s[0].toNat = 48) : P.number s.data.toList = P.upTo (P.valGo s.data.toList 0) := by
  rw [number_go s h (by rcases h0 with h0 | h0; exact .inl (by omega); exact .inr h0), P.numGo_val _ _ (by omega)]
theorem upTo_none : P.upTo none = none := rfl
theorem upTo_big (n : Nat) (h : 2147483647 < n) : P.upTo (some n) = none := by simp [P.upTo, h]
theorem upTo_in (n : Nat) (h : n ≤ 2147483647) : P.upTo (some n) = some n := by simp [P.upTo]; omega

theorem refName_any (s : ByteArray) (w : World) (hs : s.size ≤ maxLen) :
    Calls Tryd.prog 34 #[.string s] w fun e w' => e = .returned (.bool (P.name s.data.toList)) ∧ w = w' := by
  unfold maxLen at hs
  by_cases h1 : s.size < 1
  · have Hn := Lib.hid (name_long s (.inl h1))
    go_enter Tryd.func34, Tryd.ntmps34
    go_wp2
    go_ret
    exact ⟨ret_of (by rw [Hn.out]; rfl), rfl⟩
  by_cases h2 : 64 < s.size
  · have Hn := Lib.hid (name_long s (.inr h2))
    go_enter Tryd.func34, Tryd.ntmps34
    go_wp2
    go_ret
    exact ⟨ret_of (by rw [Hn.out]; rfl), rfl⟩
  have Hn := Lib.hid (name_all s (by omega) (by omega))
  go_enter Tryd.func34, Tryd.ntmps34
  go_wp2
  go_loop [3] (fun i => ∃ k : Nat, k ≤ s.size ∧ i = .int .i64 k ∧ Hid (∀ j (hj : j < s.data.toList.length), j < k → 33 ≤ s.data.toList[j].toNat ∧ s.data.toList[j].toNat ≤ 126)) (fun i => s.size - (intOf i).toNat)
  case atStart => exact ⟨0, Nat.zero_le _, rfl, Lib.hid (fun j _ h => absurd h (by omega))⟩
  case round =>
    obtain ⟨k, hk, rfl, HR⟩ := hrel
    by_cases hlt : k < s.size
    · go_wp2
      · go_ret
        exact ⟨ret_of (by rw [Hn.out, all_bad s k hlt (by omega)]; rfl), rfl⟩
      · have hlo : 33 ≤ (s[k].toNat : Int) := by omega
        have hhi : (s[k].toNat : Int) ≤ 126 := by omega
        go_round
        case rel =>
          refine ⟨k + 1, by omega, by go_num, Lib.hid (fun j hj hjk => ?_)⟩
          by_cases e : j = k
          · subst e; rw [byte s j hlt hj]; omega
          · exact HR.out j hj (by omega)
        case measure => simp [intOf]; omega
      · go_ret
        exact ⟨ret_of (by rw [Hn.out, all_bad s k hlt (by omega)]; rfl), rfl⟩
    · go_wp2
      go_ret
      have hall : (s.data.toList.all fun c => decide (33 ≤ c.toNat) && decide (c.toNat ≤ 126)) = true := by
        rw [List.all_eq_true]
        intro c hc
        obtain ⟨j, hj, rfl⟩ := List.getElem_of_mem hc
        have := HR.out j hj (by rw [← Lib.size_eq] at hj; omega)
        rw [decide_eq_true this.1, decide_eq_true this.2]; rfl
      exact ⟨ret_of (by rw [Hn.out, hall]; rfl), rfl⟩
end Go.Proofs.YtbfohfmipfapdaaDoor.T

namespace Go.Proofs.YtbfohfmipfapdaaDoor.Au
set_option linter.unusedVariables false
set_option linter.unusedSimpArgs false
open Go.RowKit
open T
open V (drawn_below grown_of)
open I (alloc1 own_at own_below)

def NmC (fn : FuncId) (s : ByteArray) (b : Bool) : Prop := ∀ w : World, Calls Tryd.prog fn #[.string s] w fun e w' => e = .returned (.bool b) ∧ w = w'
theorem NmC.call {fn : FuncId} {s : ByteArray} {b : Bool} (h : NmC fn s b) (w : World) : Calls Tryd.prog fn #[.string s] w fun e w' => e = .returned (.bool b) ∧ w = w' := h w
theorem c_name {s : ByteArray} (h : s.size ≤ maxLen) : NmC 32 s (nmB s) := fun w => name_any s w h
theorem c_rname {s : ByteArray} (h : s.size ≤ maxLen) : NmC 34 s (nmB s) := fun w => refName_any s w h
def RtC (fn : FuncId) (l : Int) (c : Nat) (b : Bool) : Prop := ∀ w : World, Calls Tryd.prog fn #[L.lab l c] w fun e w' => e = .returned (.bool b) ∧ Below w.heap.size w w'
theorem RtC.call {fn : FuncId} {l : Int} {c : Nat} {b : Bool} (h : RtC fn l c b) (w : World) : Calls Tryd.prog fn #[L.lab l c] w fun e w' => e = .returned (.bool b) ∧ Below w.heap.size w w' := h w

set_option maxRecDepth 100000 in
set_option maxHeartbeats 4000000 in
theorem check_walk (us ve fi oc : ByteArray) (lv : Int) (ct : Nat) (w : World) (b0 b1 b2 b3 b4 : Bool) (v : Int) (HV : v = if (b0 && (b1 && (b2 && (b3 && b4)))) = true then 0 else 2) (H0 : Hid (RtC 31 lv ct b0)) (H1 : Hid (NmC 32 us b1)) (H2 : Hid (NmC 32 ve b2)) (H3 : Hid (NmC 32 fi b3)) (H4 : Hid (NmC 32 oc b4)) :
    Calls Tryd.prog 24 #[.agg #[.string us, .int .i64 lv, .int .u64 (ct : Int), .string ve, .string fi, .string oc]] w fun r w' => r = .returned (.int .i64 v) ∧ Below w.heap.size w w' := by
  obtain ⟨W1, hW1⟩ : ∃ W : World, W = w.alloc (.cells #[.string us, .int .i64 lv, .int .u64 (ct : Int), .string ve, .string fi, .string oc] 40) := ⟨_, rfl⟩
  have hx1 : W1.heap[w.heap.size]? = some (.cells #[.string us, .int .i64 lv, .int .u64 (ct : Int), .string ve, .string fi, .string oc] 40 (0, 0)) := by rw [hW1]; exact heap_alloc_new w _
  have HB1 := Lib.hid (show Below w.heap.size w W1 by rw [hW1]; exact alloc1 _ _)
  obtain ⟨xb, hxb⟩ : ∃ q, q = w.heap.size := ⟨_, rfl⟩
  have HX1 := Lib.hid hx1
  have e1 := L.blk_cell hx1 1
  have e2 := L.blk_cell hx1 2
  simp only [List.getElem?_toArray, List.getElem?_cons_zero, List.getElem?_cons_succ] at e1 e2
  clear hx1
  have way0 : b0 = false →  v = 2 → Calls Tryd.prog 24 #[.agg #[.string us, .int .i64 lv, .int .u64 (ct : Int), .string ve, .string fi, .string oc]] w fun r w' => r = .returned (.int .i64 v) ∧ Below w.heap.size w w' := by
    rintro rfl rfl
    clear HV
    go_enter Tryd.func24, Tryd.ntmps24
    go_upto_region 1 with fail
    rw [← hW1]
    rw [← hxb] at HX1 e1 e2 ⊢
    clear hW1 hxb
    go_wp2_with fail
    with_reducible refine (H0.out.call _).mono ?_
    rintro e w2 ⟨rfl, hb2⟩
    have hx2 := (hb2.block _ (L.blk_lt HX1.out)).trans HX1.out
    have HB2 := Lib.hid (HB1.out.trans (hb2.mono HB1.out.size))
    clear e1 e2 HX1 hb2 HB1 H0
    have e0 := L.blk_cell hx2 0
    have e3 := L.blk_cell hx2 3
    have e4 := L.blk_cell hx2 4
    have e5 := L.blk_cell hx2 5
    simp only [List.getElem?_toArray, List.getElem?_cons_zero, List.getElem?_cons_succ] at e0 e3 e4 e5
    clear hx2
    go_wp2_with fail
    go_ret
    exact ⟨rfl, HB2.out⟩
  have way1 : b0 = true → b1 = false →  v = 2 → Calls Tryd.prog 24 #[.agg #[.string us, .int .i64 lv, .int .u64 (ct : Int), .string ve, .string fi, .string oc]] w fun r w' => r = .returned (.int .i64 v) ∧ Below w.heap.size w w' := by
    rintro rfl rfl rfl
    clear HV
    go_enter Tryd.func24, Tryd.ntmps24
    go_upto_region 1 with fail
    rw [← hW1]
    rw [← hxb] at HX1 e1 e2 ⊢
    clear hW1 hxb
    go_wp2_with fail
    with_reducible refine (H0.out.call _).mono ?_
    rintro e w2 ⟨rfl, hb2⟩
    have hx2 := (hb2.block _ (L.blk_lt HX1.out)).trans HX1.out
    have HB2 := Lib.hid (HB1.out.trans (hb2.mono HB1.out.size))
    clear e1 e2 HX1 hb2 HB1 H0
    have e0 := L.blk_cell hx2 0
    have e3 := L.blk_cell hx2 3
    have e4 := L.blk_cell hx2 4
    have e5 := L.blk_cell hx2 5
    simp only [List.getElem?_toArray, List.getElem?_cons_zero, List.getElem?_cons_succ] at e0 e3 e4 e5
    clear hx2
    go_wp2_with fail
    with_reducible refine (H1.out.call _).mono ?_
    rintro e w3 ⟨rfl, rfl⟩
    go_wp2_with fail
    go_ret
    exact ⟨rfl, HB2.out⟩
  have way2 : b0 = true → b1 = true → b2 = false →  v = 2 → Calls Tryd.prog 24 #[.agg #[.string us, .int .i64 lv, .int .u64 (ct : Int), .string ve, .string fi, .string oc]] w fun r w' => r = .returned (.int .i64 v) ∧ Below w.heap.size w w' := by
    rintro rfl rfl rfl rfl
    clear HV
    go_enter Tryd.func24, Tryd.ntmps24
    go_upto_region 1 with fail
    rw [← hW1]
    rw [← hxb] at HX1 e1 e2 ⊢
    clear hW1 hxb
    go_wp2_with fail
    with_reducible refine (H0.out.call _).mono ?_
    rintro e w2 ⟨rfl, hb2⟩
    have hx2 := (hb2.block _ (L.blk_lt HX1.out)).trans HX1.out
    have HB2 := Lib.hid (HB1.out.trans (hb2.mono HB1.out.size))
    clear e1 e2 HX1 hb2 HB1 H0
    have e0 := L.blk_cell hx2 0
    have e3 := L.blk_cell hx2 3
    have e4 := L.blk_cell hx2 4
    have e5 := L.blk_cell hx2 5
    simp only [List.getElem?_toArray, List.getElem?_cons_zero, List.getElem?_cons_succ] at e0 e3 e4 e5
    clear hx2
    go_wp2_with fail
    with_reducible refine (H1.out.call _).mono ?_
    rintro e w3 ⟨rfl, rfl⟩
    go_wp2_with fail
    with_reducible refine (H2.out.call _).mono ?_
    rintro e w3 ⟨rfl, rfl⟩
    go_wp2_with fail
    go_ret
    exact ⟨rfl, HB2.out⟩
  have way3 : b0 = true → b1 = true → b2 = true → b3 = false →  v = 2 → Calls Tryd.prog 24 #[.agg #[.string us, .int .i64 lv, .int .u64 (ct : Int), .string ve, .string fi, .string oc]] w fun r w' => r = .returned (.int .i64 v) ∧ Below w.heap.size w w' := by
    rintro rfl rfl rfl rfl rfl
    clear HV
    go_enter Tryd.func24, Tryd.ntmps24
    go_upto_region 1 with fail
    rw [← hW1]
    rw [← hxb] at HX1 e1 e2 ⊢
    clear hW1 hxb
    go_wp2_with fail
    with_reducible refine (H0.out.call _).mono ?_
    rintro e w2 ⟨rfl, hb2⟩
    have hx2 := (hb2.block _ (L.blk_lt HX1.out)).trans HX1.out
    have HB2 := Lib.hid (HB1.out.trans (hb2.mono HB1.out.size))
    clear e1 e2 HX1 hb2 HB1 H0
    have e0 := L.blk_cell hx2 0
    have e3 := L.blk_cell hx2 3
    have e4 := L.blk_cell hx2 4
    have e5 := L.blk_cell hx2 5
    simp only [List.getElem?_toArray, List.getElem?_cons_zero, List.getElem?_cons_succ] at e0 e3 e4 e5
    clear hx2
    go_wp2_with fail
    with_reducible refine (H1.out.call _).mono ?_
    rintro e w3 ⟨rfl, rfl⟩
    go_wp2_with fail
    with_reducible refine (H2.out.call _).mono ?_
    rintro e w3 ⟨rfl, rfl⟩
    go_wp2_with fail
    with_reducible refine (H3.out.call _).mono ?_
    rintro e w3 ⟨rfl, rfl⟩
    go_wp2_with fail
    go_ret
    exact ⟨rfl, HB2.out⟩
  have way4 : b0 = true → b1 = true → b2 = true → b3 = true → b4 = false →  v = 2 → Calls Tryd.prog 24 #[.agg #[.string us, .int .i64 lv, .int .u64 (ct : Int), .string ve, .string fi, .string oc]] w fun r w' => r = .returned (.int .i64 v) ∧ Below w.heap.size w w' := by
    rintro rfl rfl rfl rfl rfl rfl
    clear HV
    go_enter Tryd.func24, Tryd.ntmps24
    go_upto_region 1 with fail
    rw [← hW1]
    rw [← hxb] at HX1 e1 e2 ⊢
    clear hW1 hxb
    go_wp2_with fail
    with_reducible refine (H0.out.call _).mono ?_
    rintro e w2 ⟨rfl, hb2⟩
    have hx2 := (hb2.block _ (L.blk_lt HX1.out)).trans HX1.out
    have HB2 := Lib.hid (HB1.out.trans (hb2.mono HB1.out.size))
    clear e1 e2 HX1 hb2 HB1 H0
    have e0 := L.blk_cell hx2 0
    have e3 := L.blk_cell hx2 3
    have e4 := L.blk_cell hx2 4
    have e5 := L.blk_cell hx2 5
    simp only [List.getElem?_toArray, List.getElem?_cons_zero, List.getElem?_cons_succ] at e0 e3 e4 e5
    clear hx2
    go_wp2_with fail
    with_reducible refine (H1.out.call _).mono ?_
    rintro e w3 ⟨rfl, rfl⟩
    go_wp2_with fail
    with_reducible refine (H2.out.call _).mono ?_
    rintro e w3 ⟨rfl, rfl⟩
    go_wp2_with fail
    with_reducible refine (H3.out.call _).mono ?_
    rintro e w3 ⟨rfl, rfl⟩
    go_wp2_with fail
    with_reducible refine (H4.out.call _).mono ?_
    rintro e w3 ⟨rfl, rfl⟩
    go_wp2_with fail
    go_ret
    exact ⟨rfl, HB2.out⟩
  have way5 : b0 = true → b1 = true → b2 = true → b3 = true → b4 = true →  v = 0 → Calls Tryd.prog 24 #[.agg #[.string us, .int .i64 lv, .int .u64 (ct : Int), .string ve, .string fi, .string oc]] w fun r w' => r = .returned (.int .i64 v) ∧ Below w.heap.size w w' := by
    rintro rfl rfl rfl rfl rfl rfl
    clear HV
    go_enter Tryd.func24, Tryd.ntmps24
    go_upto_region 1 with fail
    rw [← hW1]
    rw [← hxb] at HX1 e1 e2 ⊢
    clear hW1 hxb
    go_wp2_with fail
    with_reducible refine (H0.out.call _).mono ?_
    rintro e w2 ⟨rfl, hb2⟩
    have hx2 := (hb2.block _ (L.blk_lt HX1.out)).trans HX1.out
    have HB2 := Lib.hid (HB1.out.trans (hb2.mono HB1.out.size))
    clear e1 e2 HX1 hb2 HB1 H0
    have e0 := L.blk_cell hx2 0
    have e3 := L.blk_cell hx2 3
    have e4 := L.blk_cell hx2 4
    have e5 := L.blk_cell hx2 5
    simp only [List.getElem?_toArray, List.getElem?_cons_zero, List.getElem?_cons_succ] at e0 e3 e4 e5
    clear hx2
    go_wp2_with fail
    with_reducible refine (H1.out.call _).mono ?_
    rintro e w3 ⟨rfl, rfl⟩
    go_wp2_with fail
    with_reducible refine (H2.out.call _).mono ?_
    rintro e w3 ⟨rfl, rfl⟩
    go_wp2_with fail
    with_reducible refine (H3.out.call _).mono ?_
    rintro e w3 ⟨rfl, rfl⟩
    go_wp2_with fail
    with_reducible refine (H4.out.call _).mono ?_
    rintro e w3 ⟨rfl, rfl⟩
    go_wp2_with fail
    go_ret
    exact ⟨rfl, HB2.out⟩
  cases b0 with
  | false => exact way0 rfl HV
  | true =>
    cases b1 with
    | false => exact way1 rfl rfl HV
    | true =>
      cases b2 with
      | false => exact way2 rfl rfl rfl HV
      | true =>
        cases b3 with
        | false => exact way3 rfl rfl rfl rfl HV
        | true =>
          cases b4 with
          | false => exact way4 rfl rfl rfl rfl rfl HV
          | true =>
            exact way5 rfl rfl rfl rfl rfl HV
set_option maxRecDepth 100000 in
set_option maxHeartbeats 4000000 in
theorem rcheck_walk (us ve fi oc : ByteArray) (lv : Int) (ct : Nat) (w : World) (b0 b1 b2 b3 b4 : Bool) (v : Int) (HV : v = if (b0 && (b1 && (b2 && (b3 && b4)))) = true then 0 else 2) (H0 : Hid (RtC 33 lv ct b0)) (H1 : Hid (NmC 34 us b1)) (H2 : Hid (NmC 34 ve b2)) (H3 : Hid (NmC 34 fi b3)) (H4 : Hid (NmC 34 oc b4)) :
    Calls Tryd.prog 25 #[.agg #[.string us, .int .i64 lv, .int .u64 (ct : Int), .string ve, .string fi, .string oc]] w fun r w' => r = .returned (.int .i64 v) ∧ Below w.heap.size w w' := by
  obtain ⟨W1, hW1⟩ : ∃ W : World, W = w.alloc (.cells #[.string us, .int .i64 lv, .int .u64 (ct : Int), .string ve, .string fi, .string oc] 40) := ⟨_, rfl⟩
  have hx1 : W1.heap[w.heap.size]? = some (.cells #[.string us, .int .i64 lv, .int .u64 (ct : Int), .string ve, .string fi, .string oc] 40 (0, 0)) := by rw [hW1]; exact heap_alloc_new w _
  have HB1 := Lib.hid (show Below w.heap.size w W1 by rw [hW1]; exact alloc1 _ _)
  obtain ⟨xb, hxb⟩ : ∃ q, q = w.heap.size := ⟨_, rfl⟩
  have HX1 := Lib.hid hx1
  have e1 := L.blk_cell hx1 1
  have e2 := L.blk_cell hx1 2
  simp only [List.getElem?_toArray, List.getElem?_cons_zero, List.getElem?_cons_succ] at e1 e2
  clear hx1
  have way0 : b0 = false →  v = 2 → Calls Tryd.prog 25 #[.agg #[.string us, .int .i64 lv, .int .u64 (ct : Int), .string ve, .string fi, .string oc]] w fun r w' => r = .returned (.int .i64 v) ∧ Below w.heap.size w w' := by
    rintro rfl rfl
    clear HV
    go_enter Tryd.func25, Tryd.ntmps25
    go_upto_region 1 with fail
    rw [← hW1]
    rw [← hxb] at HX1 e1 e2 ⊢
    clear hW1 hxb
    go_wp2_with fail
    with_reducible refine (H0.out.call _).mono ?_
    rintro e w2 ⟨rfl, hb2⟩
    have hx2 := (hb2.block _ (L.blk_lt HX1.out)).trans HX1.out
    have HB2 := Lib.hid (HB1.out.trans (hb2.mono HB1.out.size))
    clear e1 e2 HX1 hb2 HB1 H0
    have e0 := L.blk_cell hx2 0
    have e3 := L.blk_cell hx2 3
    have e4 := L.blk_cell hx2 4
    have e5 := L.blk_cell hx2 5
    simp only [List.getElem?_toArray, List.getElem?_cons_zero, List.getElem?_cons_succ] at e0 e3 e4 e5
    clear hx2
    go_wp2_with fail
    go_ret
    exact ⟨rfl, HB2.out⟩
  have way1 : b0 = true → b1 = false →  v = 2 → Calls Tryd.prog 25 #[.agg #[.string us, .int .i64 lv, .int .u64 (ct : Int), .string ve, .string fi, .string oc]] w fun r w' => r = .returned (.int .i64 v) ∧ Below w.heap.size w w' := by
    rintro rfl rfl rfl
    clear HV
    go_enter Tryd.func25, Tryd.ntmps25
    go_upto_region 1 with fail
    rw [← hW1]
    rw [← hxb] at HX1 e1 e2 ⊢
    clear hW1 hxb
    go_wp2_with fail
    with_reducible refine (H0.out.call _).mono ?_
    rintro e w2 ⟨rfl, hb2⟩
    have hx2 := (hb2.block _ (L.blk_lt HX1.out)).trans HX1.out
    have HB2 := Lib.hid (HB1.out.trans (hb2.mono HB1.out.size))
    clear e1 e2 HX1 hb2 HB1 H0
    have e0 := L.blk_cell hx2 0
    have e3 := L.blk_cell hx2 3
    have e4 := L.blk_cell hx2 4
    have e5 := L.blk_cell hx2 5
    simp only [List.getElem?_toArray, List.getElem?_cons_zero, List.getElem?_cons_succ] at e0 e3 e4 e5
    clear hx2
    go_wp2_with fail
    with_reducible refine (H1.out.call _).mono ?_
    rintro e w3 ⟨rfl, rfl⟩
    go_wp2_with fail
    go_ret
    exact ⟨rfl, HB2.out⟩
  have way2 : b0 = true → b1 = true → b2 = false →  v = 2 → Calls Tryd.prog 25 #[.agg #[.string us, .int .i64 lv, .int .u64 (ct : Int), .string ve, .string fi, .string oc]] w fun r w' => r = .returned (.int .i64 v) ∧ Below w.heap.size w w' := by
    rintro rfl rfl rfl rfl
    clear HV
    go_enter Tryd.func25, Tryd.ntmps25
    go_upto_region 1 with fail
    rw [← hW1]
    rw [← hxb] at HX1 e1 e2 ⊢
    clear hW1 hxb
    go_wp2_with fail
    with_reducible refine (H0.out.call _).mono ?_
    rintro e w2 ⟨rfl, hb2⟩
    have hx2 := (hb2.block _ (L.blk_lt HX1.out)).trans HX1.out
    have HB2 := Lib.hid (HB1.out.trans (hb2.mono HB1.out.size))
    clear e1 e2 HX1 hb2 HB1 H0
    have e0 := L.blk_cell hx2 0
    have e3 := L.blk_cell hx2 3
    have e4 := L.blk_cell hx2 4
    have e5 := L.blk_cell hx2 5
    simp only [List.getElem?_toArray, List.getElem?_cons_zero, List.getElem?_cons_succ] at e0 e3 e4 e5
    clear hx2
    go_wp2_with fail
    with_reducible refine (H1.out.call _).mono ?_
    rintro e w3 ⟨rfl, rfl⟩
    go_wp2_with fail
    with_reducible refine (H2.out.call _).mono ?_
    rintro e w3 ⟨rfl, rfl⟩
    go_wp2_with fail
    go_ret
    exact ⟨rfl, HB2.out⟩
  have way3 : b0 = true → b1 = true → b2 = true → b3 = false →  v = 2 → Calls Tryd.prog 25 #[.agg #[.string us, .int .i64 lv, .int .u64 (ct : Int), .string ve, .string fi, .string oc]] w fun r w' => r = .returned (.int .i64 v) ∧ Below w.heap.size w w' := by
    rintro rfl rfl rfl rfl rfl
    clear HV
    go_enter Tryd.func25, Tryd.ntmps25
    go_upto_region 1 with fail
    rw [← hW1]
    rw [← hxb] at HX1 e1 e2 ⊢
    clear hW1 hxb
    go_wp2_with fail
    with_reducible refine (H0.out.call _).mono ?_
    rintro e w2 ⟨rfl, hb2⟩
    have hx2 := (hb2.block _ (L.blk_lt HX1.out)).trans HX1.out
    have HB2 := Lib.hid (HB1.out.trans (hb2.mono HB1.out.size))
    clear e1 e2 HX1 hb2 HB1 H0
    have e0 := L.blk_cell hx2 0
    have e3 := L.blk_cell hx2 3
    have e4 := L.blk_cell hx2 4
    have e5 := L.blk_cell hx2 5
    simp only [List.getElem?_toArray, List.getElem?_cons_zero, List.getElem?_cons_succ] at e0 e3 e4 e5
    clear hx2
    go_wp2_with fail
    with_reducible refine (H1.out.call _).mono ?_
    rintro e w3 ⟨rfl, rfl⟩
    go_wp2_with fail
    with_reducible refine (H2.out.call _).mono ?_
    rintro e w3 ⟨rfl, rfl⟩
    go_wp2_with fail
    with_reducible refine (H3.out.call _).mono ?_
    rintro e w3 ⟨rfl, rfl⟩
    go_wp2_with fail
    go_ret
    exact ⟨rfl, HB2.out⟩
  have way4 : b0 = true → b1 = true → b2 = true → b3 = true → b4 = false →  v = 2 → Calls Tryd.prog 25 #[.agg #[.string us, .int .i64 lv, .int .u64 (ct : Int), .string ve, .string fi, .string oc]] w fun r w' => r = .returned (.int .i64 v) ∧ Below w.heap.size w w' := by
    rintro rfl rfl rfl rfl rfl rfl
    clear HV
    go_enter Tryd.func25, Tryd.ntmps25
    go_upto_region 1 with fail
    rw [← hW1]
    rw [← hxb] at HX1 e1 e2 ⊢
    clear hW1 hxb
    go_wp2_with fail
    with_reducible refine (H0.out.call _).mono ?_
    rintro e w2 ⟨rfl, hb2⟩
    have hx2 := (hb2.block _ (L.blk_lt HX1.out)).trans HX1.out
    have HB2 := Lib.hid (HB1.out.trans (hb2.mono HB1.out.size))
    clear e1 e2 HX1 hb2 HB1 H0
    have e0 := L.blk_cell hx2 0
    have e3 := L.blk_cell hx2 3
    have e4 := L.blk_cell hx2 4
    have e5 := L.blk_cell hx2 5
    simp only [List.getElem?_toArray, List.getElem?_cons_zero, List.getElem?_cons_succ] at e0 e3 e4 e5
    clear hx2
    go_wp2_with fail
    with_reducible refine (H1.out.call _).mono ?_
    rintro e w3 ⟨rfl, rfl⟩
    go_wp2_with fail
    with_reducible refine (H2.out.call _).mono ?_
    rintro e w3 ⟨rfl, rfl⟩
    go_wp2_with fail
    with_reducible refine (H3.out.call _).mono ?_
    rintro e w3 ⟨rfl, rfl⟩
    go_wp2_with fail
    with_reducible refine (H4.out.call _).mono ?_
    rintro e w3 ⟨rfl, rfl⟩
    go_wp2_with fail
    go_ret
    exact ⟨rfl, HB2.out⟩
  have way5 : b0 = true → b1 = true → b2 = true → b3 = true → b4 = true →  v = 0 → Calls Tryd.prog 25 #[.agg #[.string us, .int .i64 lv, .int .u64 (ct : Int), .string ve, .string fi, .string oc]] w fun r w' => r = .returned (.int .i64 v) ∧ Below w.heap.size w w' := by
    rintro rfl rfl rfl rfl rfl rfl
    clear HV
    go_enter Tryd.func25, Tryd.ntmps25
    go_upto_region 1 with fail
    rw [← hW1]
    rw [← hxb] at HX1 e1 e2 ⊢
    clear hW1 hxb
    go_wp2_with fail
    with_reducible refine (H0.out.call _).mono ?_
    rintro e w2 ⟨rfl, hb2⟩
    have hx2 := (hb2.block _ (L.blk_lt HX1.out)).trans HX1.out
    have HB2 := Lib.hid (HB1.out.trans (hb2.mono HB1.out.size))
    clear e1 e2 HX1 hb2 HB1 H0
    have e0 := L.blk_cell hx2 0
    have e3 := L.blk_cell hx2 3
    have e4 := L.blk_cell hx2 4
    have e5 := L.blk_cell hx2 5
    simp only [List.getElem?_toArray, List.getElem?_cons_zero, List.getElem?_cons_succ] at e0 e3 e4 e5
    clear hx2
    go_wp2_with fail
    with_reducible refine (H1.out.call _).mono ?_
    rintro e w3 ⟨rfl, rfl⟩
    go_wp2_with fail
    with_reducible refine (H2.out.call _).mono ?_
    rintro e w3 ⟨rfl, rfl⟩
    go_wp2_with fail
    with_reducible refine (H3.out.call _).mono ?_
    rintro e w3 ⟨rfl, rfl⟩
    go_wp2_with fail
    with_reducible refine (H4.out.call _).mono ?_
    rintro e w3 ⟨rfl, rfl⟩
    go_wp2_with fail
    go_ret
    exact ⟨rfl, HB2.out⟩
  cases b0 with
  | false => exact way0 rfl HV
  | true =>
    cases b1 with
    | false => exact way1 rfl rfl HV
    | true =>
      cases b2 with
      | false => exact way2 rfl rfl rfl HV
      | true =>
        cases b3 with
        | false => exact way3 rfl rfl rfl rfl HV
        | true =>
          cases b4 with
          | false => exact way4 rfl rfl rfl rfl rfl HV
          | true =>
            exact way5 rfl rfl rfl rfl rfl HV
def CkC (fn : FuncId) (e : Et) : Prop := ∀ w : World, Calls Tryd.prog fn #[etV e] w fun r w' => r = .returned (.int .i64 (ckE e)) ∧ Below w.heap.size w w'
theorem CkC.call {fn : FuncId} {e : Et} (h : CkC fn e) (w : World) : Calls Tryd.prog fn #[.agg #[.string e.us, .int .i64 e.lv, .int .u64 (e.ct : Int), .string e.ve, .string e.fi, .string e.oc]] w fun r w' => r = .returned (.int .i64 (ckE e)) ∧ Below w.heap.size w w' := h w
theorem c_check {e : Et} (h : EtOk e) : CkC 24 e := fun w =>
  check_walk e.us e.ve e.fi e.oc e.lv e.ct w _ _ _ _ _ _ rfl (Lib.hid fun w => L.right_any e.lv e.ct w) (Lib.hid (c_name h.us)) (Lib.hid (c_name h.ve)) (Lib.hid (c_name h.fi)) (Lib.hid (c_name h.oc))
theorem c_rcheck {e : Et} (h : EtOk e) : CkC 25 e := fun w =>
  rcheck_walk e.us e.ve e.fi e.oc e.lv e.ct w _ _ _ _ _ _ rfl (Lib.hid fun w => L.refRight_any e.lv e.ct w) (Lib.hid (c_rname h.us)) (Lib.hid (c_rname h.ve)) (Lib.hid (c_rname h.fi)) (Lib.hid (c_rname h.oc))
end Go.Proofs.YtbfohfmipfapdaaDoor.Au

namespace Go.Proofs.YtbfohfmipfapdaaDoor.Au
set_option linter.unusedVariables false
set_option linter.unusedSimpArgs false
open Go.RowKit
open T
open V (drawn_below grown_of)
open I (alloc1 own_at own_below)

theorem Rw.below {w w' : World} {base : Nat} {r : Option Nat} {v : Value} {l : List Et} (h : Rw w base r v l) (hb : Below w.heap.size w w') : Rw w' base r v l := by
  rcases h with ⟨h, e⟩ | ⟨A, e, hI, h0, hr⟩
  · exact .inl ⟨own_below h hb, e⟩
  · exact .inr ⟨A, e, hI.below hb, h0, hr⟩
theorem Rw.ne {w : World} {base : Nat} {r : Option Nat} {v : Value} {l : List Et} {b : Nat} {cs : Array Value} {t : TypeId} (h : Rw w base r v l) (hb : w.heap[b]? = some (.cells cs t (0, 0))) (ht : t ≠ 40) : some b ≠ r := by
  rcases h with ⟨h, rfl⟩ | ⟨A, e, hI, h0, rfl⟩
  · exact V.own_ne' h (fun cs' e => by rw [hb] at e; injection e with e; injection e with _ e; exact ht e)
  · simp
theorem Rw.ge {w : World} {base : Nat} {r : Option Nat} {v : Value} {l : List Et} (h : Rw w base r v l) : ∀ g, r = some g → base ≤ g ∧ g < w.heap.size := by
  rcases h with ⟨h, rfl⟩ | ⟨A, e, hI, h0, rfl⟩
  · exact h.lt
  · intro g e; cases e
theorem ckE_zero {e : Et} (h : okE e = true) : ckE e = 0 := if_pos h
theorem ckE_two {e : Et} (h : ¬ okE e = true) : ckE e = 2 := if_neg h
/-- What a log's Add comes to. -/
def AdEnd (w : World) (base b : Nat) (r : Option Nat) (l : List Et) (e : Et) (x : Ending) (w' : World) : Prop :=
  x = .returned (.int .i64 (ckE e)) ∧ Kp w w' b r ∧ ∃ v' r', w'.heap[b]? = some (.cells #[v'] 52 (0, 0)) ∧ Rw w' base r' v' (addE l e) ∧ (r' = r ∨ ∃ g, r' = some g ∧ w.heap.size ≤ g)
theorem add_end {w w2 w4 : World} {base b g cap n : Nat} {r : Option Nat} {v : Value} {l : List Et} {e : Et} {o : Obj} (he : okE e = true) (hB : Below w.heap.size w w2) (hX : w2.heap[b]? = some (.cells #[v] 52 (0, 0))) (hne : some b ≠ r) (hn : n = l.length) (hg : (w2.alloc o).drew.grownBy w4 r) (ho : w4.ownsRow base 40 6 (.slice (some ⟨g, 0, none⟩) (l.length + 1) cap) (l.length + 1) (etCells (l ++ [e]))) (hat : r = some g ∨ w2.heap.size ≤ g) :
    AdEnd w base b r l e (.returned (.int .i64 0)) (w4.setCell ⟨b, 0, none⟩ (.slice (some ⟨g, 0, none⟩) (n + 1) cap)) := by
  subst hn
  have hb := L.blk_lt hX
  have h4 : w4.heap[b]? = some (.cells #[v] 52 (0, 0)) := by
    rw [hg.block b (by simp; omega) hne]
    exact (Below.heap_alloc w2 o b hb).trans hX
  have e1 : addE l e = l ++ [e] := if_pos he
  refine ⟨by rw [ckE_zero he], ((Kp.of hB b r).trans (Kp.of (((Below.refl _ _).alloc (Nat.le_refl _) o).drew) b r) (.inl rfl)).trans ((Kp.grown hg b).trans (Kp.set w4 b _ r) (.inl rfl)) (.inl rfl), .slice (some ⟨g, 0, none⟩) (l.length + 1) cap, some g, L.blk_set h4 0 _, .inl ⟨?_, rfl⟩, ?_⟩
  · rw [e1, List.length_append, List.length_singleton]
    refine ho.kept (V.grown_set w4 ⟨b, 0, none⟩ _) (.inr ?_)
    show some g ≠ some b
    intro h
    injection h with h
    subst h
    rcases hat with h | h
    · exact hne h.symm
    · omega
  · rcases hat with h | h
    · exact .inl h.symm
    · exact .inr ⟨g, rfl, Nat.le_trans hB.size h⟩
set_option maxRecDepth 100000 in
set_option maxHeartbeats 4000000 in
theorem add_any {w : World} {base b : Nat} {r : Option Nat} {v : Value} {l : List Et} {e : Et} (hok : EtOk e) (hX : w.heap[b]? = some (.cells #[v] 52 (0, 0))) (hR : Rw w base r v l) (hl : l.length ≤ 1000) (hbase : base ≤ w.heap.size) :
    Calls Tryd.prog 18 #[.pointer (some ⟨b, 0, none⟩), etV e] w (AdEnd w base b r l e) := by
  have HCK := Lib.hid (c_check hok)
  have hb := L.blk_lt hX
  have HNE := Lib.hid (hR.ne hX (by decide))
  obtain ⟨W1, hW1⟩ : ∃ W : World, W = w.alloc (.cells #[.string e.us, .int .i64 e.lv, .int .u64 (e.ct : Int), .string e.ve, .string e.fi, .string e.oc] 40) := ⟨_, rfl⟩
  have hx1 : W1.heap[w.heap.size]? = some (.cells #[.string e.us, .int .i64 e.lv, .int .u64 (e.ct : Int), .string e.ve, .string e.fi, .string e.oc] 40 (0, 0)) := by rw [hW1]; exact heap_alloc_new w _
  have hB1 : Below w.heap.size w W1 := by rw [hW1]; exact alloc1 _ _
  obtain ⟨A, c, rfl, hlc, hI⟩ := hR.form
  have HB1 := Lib.hid hB1
  have HR1 := Lib.hid (hR.below hB1)
  have HX1 := Lib.hid ((hB1.block b hb).trans hX)
  have HE1 := Lib.hid hx1
  obtain ⟨us, lv, ct, ve, fi, oc⟩ := e
  obtain ⟨xb, hxb⟩ : ∃ q, q = w.heap.size := ⟨_, rfl⟩
  rw [← hxb] at hx1 HE1
  have HZB := Lib.hid hxb
  have e0 := L.blk_cell hx1 0
  have e1 := L.blk_cell hx1 1
  have e2 := L.blk_cell hx1 2
  have e3 := L.blk_cell hx1 3
  have e4 := L.blk_cell hx1 4
  have e5 := L.blk_cell hx1 5
  simp only [List.getElem?_toArray, List.getElem?_cons_zero, List.getElem?_cons_succ] at e0 e1 e2 e3 e4 e5
  simp only [etV]
  clear hx1 hB1 hR hX hI
  by_cases hk : okE ⟨us, lv, ct, ve, fi, oc⟩ = true
  · have HK := Lib.hid hk
    have HZ := Lib.hid (ckE_zero hk)
    clear hk
    go_enter Tryd.func18, Tryd.ntmps18
    go_upto_region 1 with fail
    rw [← hW1, ← hxb]
    clear hW1 hxb
    go_wp2_with fail
    with_reducible refine (HCK.out.call _).mono ?_
    rintro x w2 ⟨rfl, hb2⟩
    rw [HZ.out]
    have hs1 : base ≤ w2.heap.size := by have := HB1.out.size; have := hb2.size; omega
    have HB2 := Lib.hid (HB1.out.trans (hb2.mono HB1.out.size))
    have HR2 := Lib.hid (HR1.out.below hb2)
    have hx2 := (hb2.block _ (L.blk_lt HX1.out)).trans HX1.out
    have he2 := (hb2.block _ (L.blk_lt HE1.out)).trans HE1.out
    have HX2 := Lib.hid hx2
    clear e0 e1 e2 e3 e4 e5 HR1 HX1 HE1 hb2 HCK HB1
    have e0 := L.blk_cell he2 0
    have e1 := L.blk_cell he2 1
    have e2 := L.blk_cell he2 2
    have e3 := L.blk_cell he2 3
    have e4 := L.blk_cell he2 4
    have e5 := L.blk_cell he2 5
    simp only [List.getElem?_toArray, List.getElem?_cons_zero, List.getElem?_cons_succ] at e0 e1 e2 e3 e4 e5
    have k0 := L.blk_cell hx2 0
    have z0 := L.blk_free hx2 0
    have hbl := L.blk_lt hx2
    simp only [List.getElem?_toArray, List.getElem?_cons_zero] at k0
    have hlt : (l.length : Int) < 1000000 := by omega
    have hlt2 : decide ((1000000 : Int) ≤ (l.length : Int)) = false := decide_eq_false (by omega)
    have HNW := Lib.hid (World.news_of_block (w := (w2.alloc (.cells #[.string us, .int .i64 lv, .int .u64 (ct : Int), .string ve, .string fi, .string oc] 40)).drew) (heap_alloc_new w2 _))
    have HRA : Hid (Rw ((w2.alloc (.cells #[.string us, .int .i64 lv, .int .u64 (ct : Int), .string ve, .string fi, .string oc] 40)).drew) base r (.slice A l.length c) l) := Lib.hid (HR2.out.below (((Below.refl _ _).alloc (Nat.le_refl _) _).drew))
    clear hx2 he2
    obtain ⟨n, hn⟩ : ∃ n, n = l.length := ⟨_, rfl⟩
    have HN := Lib.hid hn
    rw [← hn] at hl hlt hlt2 k0 HRA
    clear hn
    go_upto_region 8 with fail
    go_region_law ((refine step_append_rw (by rfl) (.tmp 23) (.tmp 25) (by rfl) (by rfl) HRA.out ⟨us, lv, ct, ve, fi, oc⟩ ⟨w2.heap.size, 0, none⟩ 1 (by rfl) HNW.out (by rw [← HN.out]; omega) (by simp; omega) _ rfl ?_; rw [← HN.out]; intro g3 cap3 w4 hown3 hgrow3 hat3 hlt3; have hc3 := hgrow3.cell_far ⟨b, 0, none⟩ (by simp; omega) HNE.out; have hz3 := hgrow3.frozen_far ⟨b, 0, none⟩ (by simp; omega) HNE.out))
    all_goals
      go_wp2_with fail
      go_ret
      exact add_end HK.out HB2.out HX2.out HNE.out HN.out hgrow3 (by rw [← HN.out]; exact hown3) (hat3.imp id (fun h => by rw [h]; simp))
  · have HZ := Lib.hid (ckE_two hk)
    have HA : Hid (addE l ⟨us, lv, ct, ve, fi, oc⟩ = l) := Lib.hid (if_neg hk)
    clear hk
    go_enter Tryd.func18, Tryd.ntmps18
    go_upto_region 1 with fail
    rw [← hW1, ← hxb]
    clear hW1 hxb
    go_wp2_with fail
    with_reducible refine (HCK.out.call _).mono ?_
    rintro x w2 ⟨rfl, hb2⟩
    rw [HZ.out]
    have HB2 := Lib.hid (HB1.out.trans (hb2.mono HB1.out.size))
    have HR2 := Lib.hid (HR1.out.below hb2)
    have HX2 := Lib.hid ((hb2.block _ (L.blk_lt HX1.out)).trans HX1.out)
    clear e0 e1 e2 e3 e4 e5 HR1 HX1 HE1 hb2 HCK HB1
    go_wp2_with fail
    go_ret
    exact ⟨by rw [HZ.out]; rfl, Kp.of HB2.out b r, _, r, HX2.out, by rw [HA.out]; exact HR2.out, .inl rfl⟩
end Go.Proofs.YtbfohfmipfapdaaDoor.Au
