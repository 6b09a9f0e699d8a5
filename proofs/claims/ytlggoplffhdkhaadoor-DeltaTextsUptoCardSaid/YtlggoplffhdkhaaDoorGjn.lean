/-
  The contracts of the reference's Same, on items that are the same, and of Numbered.
  DeltaApplies, walked over any list and delta that are not too large.
  An argument that is a delta, opened, with a bound by its bulk.
-/
import Derived.Test.YtlggoplffhdkhaaDoorGjm
import Derived.Deep.QuietTactic
import Derived.BigQuiet
import Derived.Test.YtlggoplffhdkhaaDoorGji
import Derived.Test.YtlggoplffhdkhaaDoorGjl
import Derived.Test.YtlggoplffhdkhaaDoorGje
namespace Go.Proofs.YtlggoplffhdkhaaDoor.I
set_option linter.unusedVariables false
set_option linter.unusedSimpArgs false
open Go.RowKit
open T

set_option maxHeartbeats 1000000 in
set_option maxRecDepth 100000 in
theorem same_any (A A' : Option Addr) (cap cap' : Nat) (xs : List It) (w : World) (hb : xs.length ≤ 2199023255552) (hA : ItemsIn w A xs) (hA' : ItemsIn w A' xs) :
    Calls Tryd.prog 17 #[.slice A xs.length cap, .slice A' xs.length cap'] w fun e w' => e = .returned (.bool true) ∧ Below w.heap.size w w' := by
  have HA := Lib.hid hA
  have HB := Lib.hid hA'
  clear hA hA'
  have hne : ((xs.length : Int) != (xs.length : Int)) = false := by simp
  go_enter Tryd.func17, Tryd.ntmps17
  go_wp2_with fail
  go_loopg [5] xs.length (fun n i wr => ∃ k : Nat, k ≤ xs.length ∧ i = .int .i64 k ∧ xs.length - k ≤ n ∧ ∃ q, wr = w.drewN q)
  case atStart => exact ⟨0, Nat.zero_le _, rfl, by omega, 0, rfl⟩
  case round =>
    obtain ⟨k, hk, rfl, hn, q, rfl⟩ := hrel
    by_cases hlt : k < xs.length
    · obtain ⟨bk, off, hAe, hbk, hL⟩ := HA.out (by omega)
      obtain ⟨bk', off', hAe', hbk', hL'⟩ := HB.out (by omega)
      subst hAe hAe'
      obtain ⟨c0, c1, c2, c3, c4, c5⟩ := hL k hlt
      obtain ⟨d0, d1, d2, d3, d4, d5⟩ := hL' k hlt
      have h0k : (0 : Int) ≤ (k : Int) := Int.natCast_nonneg _
      have h1k : (k : Int) < (xs.length : Int) := by omega
      clear hL hL'
      generalize xs[k].id = x0 at *
      generalize xs[k].lv = x1 at *
      generalize xs[k].ct = x2 at *
      generalize xs[k].an = x3 at *
      generalize xs[k].tx = x4 at *
      generalize xs[k].ba = x5 at *
      go_wp2_with fail
      go_quiet (fail)
      go_wp2_with fail
      go_roundg (xs.length - (k + 1))
      case measure => omega
      case rel => exact ⟨k + 1, by omega, by go_num, Nat.le_refl _, _, rfl⟩
    · obtain rfl : k = xs.length := by omega
      go_wp2_with fail
      go_ret
      exact ⟨rfl, O.below_drewN (Below.refl _ _) q⟩

theorem numbered_drop {l : List It} {k j : Nat} (hk : k < l.length) : numbered j (l.drop k) = ⟨(j : Int) + 1, l[k].lv, l[k].ct, l[k].an, l[k].tx, l[k].ba⟩ :: numbered (j + 1) (l.drop (k + 1)) := by
  rw [List.drop_eq_getElem_cons hk, numbered]
end Go.Proofs.YtlggoplffhdkhaaDoor.I

namespace Go.Proofs.YtlggoplffhdkhaaDoor.Dl
set_option linter.unusedVariables false
set_option linter.unusedSimpArgs false
open Go.RowKit Go.Maps
open T
open V (drawn_below grown_of)
open I (It ItemsIn ItemsAt itCells itCells_snoc itCells_at alloc1 own_at own_below items_of_own items_own infoItem ItemsIn.below)

/-- A cell of a row of items. -/
theorem row_cell {w : World} {base g n cap : Nat} {xs : List Value} (h : w.ownsRow base 41 6 (.slice (some ⟨g, 0, none⟩) n cap) n xs) : ∃ cur : Array Value, w.heap[g]? = some (.cells cur 41 (0, 0)) ∧ n * 6 ≤ cur.size := by
  rcases h.2 with ⟨h0, _⟩ | ⟨g', cap', cur, hv, _, hg, h1, _, h3, _⟩
  · cases h0
  · injection hv with e1 e2 e3
    injection e1 with e1
    injection e1 with e1
    subst e1
    exact ⟨cur, hg, by rw [h3]; exact Nat.mul_le_mul_right _ h1⟩
set_option maxRecDepth 100000 in
set_option maxHeartbeats 4000000 in
theorem applies_any {A D : Option Addr} {ca cd : Nat} {a : List It} {d : List Pt} (w : World) (hA : Ix w A ca a) (hD : PtsIn w D d) (hd : d.length ≤ 1000000000) (ha : a.length ≤ 1000000000000) (hca : ca ≤ maxLen) (hpn : ∀ p ∈ d, -9223372036854775808 ≤ p.n ∧ p.n ≤ 9223372036854775807) (hsp : ∀ k, (∀ p ∈ d.take k, cwn p.at_ p.n p.its.length a.length = 0) → (ol a (d.take k)).length ≤ 1200000000000) (hT : Tab w) :
    Calls Tryd.prog 5 #[.slice A a.length ca, .slice D d.length cd] w fun e w' => e = .returned (.bool true) ∧ Below w.heap.size w w' := by
  have hz : ∀ (d : List Pt), aer a.length d = 0 → ∀ p ∈ d, cwn p.at_ p.n p.its.length a.length = 0 := fun d => by
    induction d with
    | nil => intro _ p hp; cases hp
    | cons x r ih =>
      intro h p hp
      rw [aer] at h
      by_cases hx : cwn x.at_ x.n x.its.length a.length = 0
      · rw [if_neg (by simpa using hx)] at h
        rcases List.mem_cons.1 hp with rfl | hp
        · exact hx
        · exact ih h p hp
      · rw [if_pos hx] at h; exact absurd h hx
  have hsm : aer a.length d = 0 → (ol a d).length ≤ 1200000000000 := fun h => by
    have := hsp d.length (by rw [List.take_length]; exact hz d h)
    rwa [List.take_length] at this
  have hll : (apl a d).length ≤ 1200000000000 := by
    unfold apl
    split
    · rename_i h; exact hsm h
    · simp
  unfold maxLen at hca
  have HAP := Lib.hid (apply_any A D ca cd a d w hA hD hd (by omega) (fun p hp => (hpn p hp).2) hsm)
  have HRA := Lib.hid (fun (W : World) (h : Below w.heap.size w W) => rapply_any A D ca cd a d W (hA.below h) (hD.below h) hd ha hpn hsp)
  have HLV := Lib.hid (fun (W : World) (h : Below w.heap.size w W) => live15 W (hT.later h))
  obtain ⟨l, hl⟩ : ∃ l, l = apl a d := ⟨_, rfl⟩
  rw [← hl] at HAP HRA hll
  have HSM := Lib.hid (fun (W : World) (R0 M : Option Addr) (c c' : Nat) (h : ItemsIn W R0 l) (h' : ItemsIn W M l) => I.same_any R0 M c c' l W (by omega) h h')
  generalize aer a.length d = z at *
  obtain ⟨la, hla⟩ : ∃ n, n = a.length := ⟨_, rfl⟩
  obtain ⟨ld, hld⟩ : ∃ n, n = d.length := ⟨_, rfl⟩
  rw [← hla, ← hld] at HAP HRA ⊢
  have hzz : (z != z) = false := by simp
  clear hA hD hpn hsp hT hsm hz hl hla hld ha hd
  go_enter Tryd.func5, Tryd.ntmps5
  go_wp2_with fail
  with_reducible refine HAP.out.mono ?_
  rintro e w1 ⟨R0, lc, rfl, hL, hb1⟩
  have HB1 := Lib.hid hb1
  have HL1 := Lib.hid hL
  clear hb1 hL HAP
  go_wp2_with fail
  with_reducible refine (HRA.out _ HB1.out).mono ?_
  rintro e w2 ⟨M, mc, rfl, hM, hb2⟩
  have HB2 := Lib.hid (HB1.out.trans (hb2.mono HB1.out.size))
  have HL2 := Lib.hid (own_below HL1.out hb2)
  have HLT : Hid (∀ g, R0 = some ⟨g, 0, none⟩ → w.heap.size ≤ g ∧ g < w1.heap.size) := Lib.hid (fun g e => World.ownsRow.lt HL1.out g (by rw [e]; rfl))
  have HM2 := Lib.hid hM
  clear hb2 HL1 hM
  go_wp2_with fail
  with_reducible refine (HSM.out _ _ _ _ _ (items_own HL2.out) (items_own HM2.out)).mono ?_
  rintro e w3 ⟨rfl, hb3⟩
  have HB3 := Lib.hid (HB2.out.trans (hb3.mono HB2.out.size))
  have HL3 := Lib.hid (own_below HL2.out hb3)
  have HM3 := Lib.hid (own_below HM2.out hb3)
  clear hb3 HL2 HM2 HB2
  go_wp2_with fail
  go_loopg [9] l.length (fun m i wr => ∃ k : Nat, k ≤ l.length ∧ i = .int .i64 (k : Int) ∧ l.length - k ≤ m ∧ Hid (Below w.heap.size w wr) ∧ Hid (wr.ownsRow w1.heap.size 41 6 (.slice M l.length mc) l.length (itCells l)) ∧ Hid (∀ g, R0 = some ⟨g, 0, none⟩ → ∃ cur : Array Value, wr.heap[g]? = some (.cells cur 41 (0, 0)) ∧ l.length * 6 ≤ cur.size))
  case atStart => exact ⟨0, Nat.zero_le _, rfl, by omega, HB3, HM3, Lib.hid (fun g e => row_cell (by rw [← e]; exact HL3.out))⟩
  case round =>
    obtain ⟨k, hk, rfl, hmm, HBR, HMR, HG⟩ := hrel
    by_cases hkl : k < l.length
    · obtain ⟨g, hLe, -⟩ := own_at HL3.out (by omega)
      obtain ⟨cur, hg, hcs⟩ := HG.out g hLe
      obtain ⟨hg1, hg2⟩ := HLT.out g hLe
      have HGE := Lib.hid hLe
      rw [hLe]
      obtain ⟨u, hu⟩ : ∃ u, cur[k * 6]? = some u := ⟨_, Array.getElem?_eq_getElem (by omega)⟩
      have c0 := (L.blk_cell hg (k * 6)).trans hu
      have f0 := L.blk_free hg (k * 6)
      have h0k : (0 : Int) ≤ (k : Int) := by omega
      have hki : (k : Int) < (l.length : Int) := by omega
      obtain ⟨w4, hw4⟩ : ∃ W : World, W = wr.setCell ⟨g, k * 6, none⟩ (.int .i64 (-7)) := ⟨_, rfl⟩
      have HB4 := Lib.hid (show Below w.heap.size w w4 by rw [hw4]; exact HBR.out.setCell (p := ⟨g, k * 6, none⟩) hg1 _)
      have HM4 := Lib.hid (show w4.ownsRow w1.heap.size 41 6 (.slice M l.length mc) l.length (itCells l) by rw [hw4]; exact HMR.out.kept (V.grown_set wr ⟨g, k * 6, none⟩ _) (.inr (fun e => by have := (World.ownsRow.lt HMR.out g e).1; omega)))
      have HG4 : Hid (∀ g, R0 = some ⟨g, 0, none⟩ → ∃ cur : Array Value, w4.heap[g]? = some (.cells cur 41 (0, 0)) ∧ l.length * 6 ≤ cur.size) := Lib.hid (fun g' e => by
        rw [HGE.out] at e
        injection e with e
        injection e with e
        subst e
        exact ⟨_, by rw [hw4]; exact L.blk_set hg (k * 6) _, by simpa using hcs⟩)
      clear hg hcs hu hg1 hg2 hLe
      go_wp2_with fail
      rw [← hw4, ← HGE.out]
      clear hw4 c0 f0
      go_roundg (l.length - (k + 1))
      case rel => exact ⟨k + 1, by omega, by go_num, Nat.le_refl _, HB4, HM4, HG4⟩
      case measure => omega
    · obtain rfl : k = l.length := by omega
      clear HG
      go_wp2_with fail
      with_reducible refine (HRA.out _ HBR.out).mono ?_
      rintro e w5 ⟨N, nc, rfl, hN, hb5⟩
      have HB5 := Lib.hid (HBR.out.trans (hb5.mono HBR.out.size))
      have HM5 := Lib.hid (own_below HMR.out hb5)
      have HN5 := Lib.hid hN
      clear hb5 hN HBR HMR
      go_wp2_with fail
      with_reducible refine (HLV.out _ HB5.out).mono ?_
      rintro e w6 ⟨rfl, hb6⟩
      have HB6 := Lib.hid (HB5.out.trans (hb6.mono HB5.out.size))
      have HM6 := Lib.hid (own_below HM5.out hb6)
      have HN6 := Lib.hid (own_below HN5.out hb6)
      clear hb6 HM5 HN5 HB5
      go_wp2_with fail
      with_reducible refine (HSM.out _ _ _ _ _ (items_own HM6.out) (items_own HN6.out)).mono ?_
      rintro e w7 ⟨rfl, hb7⟩
      have HB7 := Lib.hid (HB6.out.trans (hb7.mono HB6.out.size))
      clear hb7
      go_wp2_with fail
      go_ret
      exact ⟨rfl, HB7.out⟩
/-- How long the list of a delta's parts can be. -/
theorem ol_bound (a : List It) : ∀ (d : List Pt), (ol a d).length ≤ siz d + d.length * a.length
  | [] => by simp [ol]
  | x :: r => by
    have ih := ol_bound a r
    have e : ol a (x :: r) = (x.its ++ (a.drop x.at_.toNat).take x.n.toNat) ++ ol a r := by simp [ol]
    have e2 : siz (x :: r) = x.its.length + siz r := by simp [siz]
    rw [e, e2, List.length_append, List.length_append, List.length_take, List.length_drop, List.length_cons, Nat.add_mul]
    omega
theorem ol_small {a : List It} {d : List Pt} (h1 : siz d ≤ 1048576) (h2 : d.length ≤ 1048576) (h3 : a.length ≤ 1048576) (k : Nat) : (ol a (d.take k)).length ≤ 1200000000000 := by
  have h4 := ol_bound a (d.take k)
  have h5 := siz_le d k
  have h6 : (d.take k).length ≤ 1048576 := by rw [List.length_take]; omega
  have h7 : (d.take k).length * a.length ≤ 1048576 * 1048576 := Nat.mul_le_mul h6 h3
  omega
end Go.Proofs.YtlggoplffhdkhaaDoor.Dl

namespace Go.Proofs.YtlggoplffhdkhaaDoor.RI
open Go.ChangeShapes Go.WideShapes Go.ChangeAt Go.RowKit Go.Deep Go.Joins

instance : Inhabited Dl.Pt := ⟨⟨0, 0, []⟩⟩
section
variable {H : Type} {enc : TypeId × Value → H} {w : World} {base : Nat} {spare : Nat → Bool} {held : Bool} {fuel : Nat} {cs : List Value} {x : DataW H × List MemPlace}
theorem items_readX (h : DataW.trod enc Tryd.prog w base spare held fuel 22 cs = some x) : ∃ (A : Option Addr) (cap : Nat) (us : List I.It), cs = [.slice A us.length cap] ∧ Dl.Ix w A cap us ∧ cap ≤ maxLen ∧ (∀ x ∈ us, Dl.Wi x) ∧ itBulk us ≤ Rows.uptoBulk x.1 := by
  rcases open_slice Tryd.underlying22 h with ⟨hcs, hx⟩ | ⟨a, len, cap, m, n, D, Pl, hcs, _, hl, hm, hmm, hx, hcell⟩
  · exact ⟨none, 0, [], hcs, ⟨fun h => absurd h (by simp), Nat.le_refl _, fun _ => rfl⟩, Nat.zero_le _, fun x hx => (by cases hx), Nat.zero_le _⟩
  have hle : len ≤ m := by rw [hmm]; split <;> omega
  obtain ⟨f, hf⟩ := choose_lt (n := len) (p := fun i (u : I.It) => (w.cell? (a.add (i * 6 + 0)) = some (.int .i64 u.id) ∧ w.cell? (a.add (i * 6 + 1)) = some (.int .i64 u.lv) ∧ w.cell? (a.add (i * 6 + 2)) = some (.int .u64 (u.ct : Int)) ∧ w.cell? (a.add (i * 6 + 3)) = some (.bool u.an) ∧ w.cell? (a.add (i * 6 + 4)) = some (.string ⟨u.tx.toArray⟩) ∧ w.cell? (a.add (i * 6 + 5)) = some (.bool u.ba)) ∧ Dl.Wi u ∧ u.tx.length + 1 ≤ Rows.uptoBulk (D i)) (fun i hi => by
    obtain ⟨cs', c1, c2⟩ := hcell i (by omega)
    rw [cItem] at c1
    obtain ⟨_, hlen, hat⟩ := World.cells?_some c1
    obtain ⟨u, rfl, hu⟩ := item_readW (by simpa using hlen) c2
    have hub := item_bulk c2
    have q0 := hat 0 (by omega)
    have q1 := hat 1 (by omega)
    have q2 := hat 2 (by omega)
    have q3 := hat 3 (by omega)
    have q4 := hat 4 (by omega)
    have q5 := hat 5 (by omega)
    rw [Go.Deep.add_add] at q0 q1 q2 q3 q4 q5
    exact ⟨u, ⟨q0, q1, q2, q3, q4, q5⟩, hu.2.2, by simpa using hub⟩)
  have htl : ((List.range len).map f).length = len := by simp
  refine ⟨some a, cap, (List.range len).map f, by rw [htl, hcs], ⟨fun hp => ?_, by rw [htl]; exact hl, fun e => by cases e⟩, hm, fun u hu => ?_, ?_⟩
  · rw [htl] at hp
    obtain ⟨bk, off, spot⟩ := a
    have hspot : spot = none := by simpa [Addr.add] using World.cell?_spot (hf 0 hp).1.1
    subst hspot
    have h0 := (hf 0 hp).1.1
    refine ⟨bk, off, rfl, World.block_lt_of_cell? w _ h0, fun j hj => ?_⟩
    rw [htl] at hj
    have := (hf j hj).1
    simp only [add_plain, ← Nat.add_assoc, Nat.add_zero] at this
    simp only [List.getElem_map, List.getElem_range]
    exact this
  · obtain ⟨i, hi, rfl⟩ := List.mem_map.1 hu
    exact (hf i (List.mem_range.1 hi)).2.1
  · rw [hx]
    have := itBulk_le D f (List.range len) (fun i hi => (hf i (List.mem_range.1 hi)).2.2)
    simp only [Rows.uptoBulk]
    omega
set_option maxRecDepth 100000 in
theorem items_argX {r : Reach} {b0 : Nat} {v : Value} {d : DataW H} {p : List MemPlace} (hv : Value.okWide Tryd.prog w r b0 22 v) (h : DataW.Trod enc Tryd.prog w base spare held 22 v d p) :
    ∃ (A : Option Addr) (cap : Nat) (us : List I.It), v = .slice A us.length cap ∧ Dl.Ix w A cap us ∧ cap ≤ maxLen ∧ (∀ x ∈ us, Dl.Wi x) ∧ itBulk us ≤ Rows.uptoBulk d := by
  obtain ⟨a0, len, cap, rfl⟩ := okWide_slice Tryd.underlying22 hv
  obtain ⟨fuel, hf⟩ := h
  obtain ⟨A, cap', us, hcs, r⟩ := items_readX hf
  simp only [Value.cells, List.cons.injEq, Value.slice.injEq, and_true] at hcs
  obtain ⟨rfl, rfl, rfl⟩ := hcs
  exact ⟨_, _, us, rfl, r⟩
theorem cPart : Tryd.prog.cellsOf 27 = 3 := by kernel_rfl
theorem cItems : Tryd.prog.cellsOf 22 = 1 := by kernel_rfl
def ptBulk : List Dl.Pt → Nat
  | [] => 0
  | p :: r => itBulk p.its + 1 + ptBulk r
theorem ptBulk_le {H : Type} (D : Nat → DataW H) (f : Nat → Dl.Pt) : ∀ is : List Nat, (∀ i ∈ is, itBulk (f i).its + 1 ≤ Rows.uptoBulk (D i)) → ptBulk (is.map f) ≤ Rows.uptoBulkAll (is.map D)
  | [], _ => Nat.le_refl _
  | i :: r, h => by
    have := ptBulk_le D f r (fun j hj => h j (by simp [hj]))
    have := h i (by simp)
    simp only [List.map_cons, ptBulk, Rows.uptoBulkAll]
    omega
theorem ptBulk_len : ∀ l : List Dl.Pt, l.length ≤ ptBulk l
  | [] => Nat.le_refl _
  | u :: r => by have := ptBulk_len r; simp only [List.length_cons, ptBulk]; omega
theorem ptBulk_siz : ∀ l : List Dl.Pt, Dl.siz l ≤ ptBulk l
  | [] => Nat.le_refl _
  | u :: r => by
    have := ptBulk_siz r
    have := itBulk_len u.its
    have e2 : Dl.siz (u :: r) = u.its.length + Dl.siz r := by simp [Dl.siz]
    rw [e2]; simp only [ptBulk]; omega
theorem itBulk_mem : ∀ (l : List I.It) (x : I.It), x ∈ l → x.tx.length ≤ itBulk l
  | [], x, h => by cases h
  | u :: r, x, h => by
    rcases List.mem_cons.1 h with rfl | h
    · simp only [itBulk]; omega
    · have := itBulk_mem r x h; simp only [itBulk]; omega
theorem ptBulk_mem : ∀ (l : List Dl.Pt) (p : Dl.Pt), p ∈ l → itBulk p.its ≤ ptBulk l
  | [], p, h => by cases h
  | u :: r, p, h => by
    rcases List.mem_cons.1 h with rfl | h
    · simp only [ptBulk]; omega
    · have := ptBulk_mem r p h; simp only [ptBulk]; omega
set_option maxRecDepth 100000 in
/-- A part's three cells. -/
theorem part_readX (hl : cs.length = 3) (h : DataW.trod enc Tryd.prog w base spare held fuel 27 cs = some x) : ∃ (p : Dl.Pt) (C : Option Addr) (cc : Nat), cs = [.int .i64 p.at_, .int .i64 p.n, .slice C p.its.length cc] ∧ Dl.Ix w C cc p.its ∧ cc ≤ maxLen ∧ (-9223372036854775808 ≤ p.at_ ∧ p.at_ ≤ 9223372036854775807) ∧ (-9223372036854775808 ≤ p.n ∧ p.n ≤ 9223372036854775807) ∧ (∀ x ∈ p.its, Dl.Wi x) ∧ itBulk p.its + 1 ≤ Rows.uptoBulk x.1 := by
  obtain ⟨c0, c1, c2, rfl⟩ := RP.list3 hl
  obtain ⟨xs, n, -, hx, -, hlen, hf⟩ := DataW.trod_struct Tryd.underlying27 h
  have hlen : xs.length = 3 := hlen
  obtain ⟨y0, y1, y2, rfl⟩ := RP.list3 hlen
  have h0 : DataW.trod enc Tryd.prog w base spare held n 3 (([c0, c1, c2].drop 0).take (Tryd.prog.cellsOf 3)) = [y0, y1, y2][0]? := hf 0 _ rfl
  have h1 : DataW.trod enc Tryd.prog w base spare held n 3 (([c0, c1, c2].drop 1).take (Tryd.prog.cellsOf 3)) = [y0, y1, y2][1]? := hf 1 _ rfl
  have h2 : DataW.trod enc Tryd.prog w base spare held n 22 (([c0, c1, c2].drop 2).take (Tryd.prog.cellsOf 22)) = [y0, y1, y2][2]? := hf 2 _ rfl
  rw [RP.cInt] at h0 h1
  rw [cItems] at h2
  obtain ⟨a, e0, -, w0⟩ := DataW.trod_int Tryd.underlying3 (show DataW.trod enc Tryd.prog w base spare held n 3 [c0] = some y0 from h0)
  obtain ⟨b, e1, -, w1⟩ := DataW.trod_int Tryd.underlying3 (show DataW.trod enc Tryd.prog w base spare held n 3 [c1] = some y1 from h1)
  obtain ⟨A, cap, us, e2, hi, hc, hw, hb⟩ := items_readX (show DataW.trod enc Tryd.prog w base spare held n 22 [c2] = some y2 from h2)
  have e0' : c0 = .int .i64 a := by injection e0
  have e1' : c1 = .int .i64 b := by injection e1
  have e2' : c2 = .slice A us.length cap := by injection e2
  refine ⟨⟨a, b, us⟩, A, cap, by rw [e0', e1', e2'], hi, hc, bounds_i64 w0, bounds_i64 w1, hw, ?_⟩
  rw [hx]
  simp only [List.map_cons, List.map_nil, Rows.uptoBulk, Rows.uptoBulkAll]
  omega
set_option maxRecDepth 100000 in
theorem parts_argX {r : Reach} {b0 : Nat} {v : Value} {d : DataW H} {p : List MemPlace} (hv : Value.okWide Tryd.prog w r b0 24 v) (h : DataW.Trod enc Tryd.prog w base spare held 24 v d p) :
    ∃ (A : Option Addr) (cap : Nat) (ps : List Dl.Pt), v = .slice A ps.length cap ∧ Dl.PtsIn w A ps ∧ (∀ p ∈ ps, ((-9223372036854775808 ≤ p.at_ ∧ p.at_ ≤ 9223372036854775807) ∧ (-9223372036854775808 ≤ p.n ∧ p.n ≤ 9223372036854775807)) ∧ ∀ x ∈ p.its, Dl.Wi x) ∧ ptBulk ps ≤ Rows.uptoBulk d := by
  obtain ⟨a0, len, cap, rfl⟩ := okWide_slice Tryd.underlying24 hv
  obtain ⟨fuel, hf⟩ := h
  rcases open_slice Tryd.underlying24 hf with ⟨hcs, hx⟩ | ⟨a, len', cap', m, n, D, Pl, hcs, _, hl, hm, hmm, hx, hcell⟩
  · simp only [Value.cells, List.cons.injEq, Value.slice.injEq, and_true] at hcs
    obtain ⟨rfl, rfl, rfl⟩ := hcs
    exact ⟨none, 0, [], rfl, fun h => absurd h (by simp), fun z hz => by simp at hz, Nat.zero_le _⟩
  · simp only [Value.cells, List.cons.injEq, Value.slice.injEq, and_true] at hcs
    obtain ⟨rfl, rfl, rfl⟩ := hcs
    have hle : len ≤ m := by rw [hmm]; split <;> omega
    obtain ⟨f, hf⟩ := choose_lt (n := len) (p := fun i (q : Dl.Pt) => (w.cell? (a.add (i * 3 + 0)) = some (.int .i64 q.at_) ∧ w.cell? (a.add (i * 3 + 1)) = some (.int .i64 q.n) ∧ ∃ C cc, w.cell? (a.add (i * 3 + 2)) = some (.slice C q.its.length cc) ∧ Dl.Ix w C cc q.its) ∧ (((-9223372036854775808 ≤ q.at_ ∧ q.at_ ≤ 9223372036854775807) ∧ (-9223372036854775808 ≤ q.n ∧ q.n ≤ 9223372036854775807)) ∧ ∀ x ∈ q.its, Dl.Wi x) ∧ itBulk q.its + 1 ≤ Rows.uptoBulk (D i)) (fun i hi => by
      obtain ⟨cs', c1, c2⟩ := hcell i (by omega)
      rw [cPart] at c1
      obtain ⟨_, hlen, hat⟩ := World.cells?_some c1
      obtain ⟨q, C, cc, rfl, hix, -, h1, h2, h3, h4⟩ := part_readX (by simpa using hlen) c2
      have q0 := hat 0 (by omega)
      have q1 := hat 1 (by omega)
      have q2 := hat 2 (by omega)
      rw [Go.Deep.add_add] at q0 q1 q2
      exact ⟨q, ⟨q0, q1, C, cc, q2, hix⟩, ⟨⟨h1, h2⟩, h3⟩, h4⟩)
    have htl : ((List.range len).map f).length = len := by simp
    refine ⟨some a, cap, (List.range len).map f, by rw [htl], fun hp => ?_, fun z hz => ?_, ?_⟩
    · rw [htl] at hp
      obtain ⟨bk, off, spot⟩ := a
      have hspot : spot = none := by simpa [Addr.add] using World.cell?_spot (hf 0 hp).1.1
      subst hspot
      have h0 := (hf 0 hp).1.1
      refine ⟨bk, off, rfl, World.block_lt_of_cell? w _ h0, fun j hj => ?_⟩
      rw [htl] at hj
      have := (hf j hj).1
      simp only [add_plain, ← Nat.add_assoc, Nat.add_zero] at this
      simp only [List.getElem_map, List.getElem_range]
      exact this
    · obtain ⟨i, hi, rfl⟩ := List.mem_map.1 hz
      exact (hf i (List.mem_range.1 hi)).2.1
    · have hxd : d = _ := congrArg Prod.fst hx
      rw [hxd]
      have := ptBulk_le D f (List.range len) (fun i hi => (hf i (List.mem_range.1 hi)).2.2)
      simp only [Rows.uptoBulk]
      omega
end
end Go.Proofs.YtlggoplffhdkhaaDoor.RI
