/-
  The law ViewEnds, walked over what the code's functions come to.
  The law ViewPuts, walked over what the code's functions come to.
  The laws of layer 5, each with the program's own functions (ViewPuts apart); what must be whatever is asked.
  Where an item that is put in stands, in plain words.
-/
import Derived.Test.YtllgeffjkjdadaaGvd
import Derived.Deep.DeepCutAuto
import Derived.Deep.RegionHeld3
import Derived.Test.YtllgeffjkjdadaaGvh
import Derived.Laws.AppendOwnNone
import Derived.Test.YtllgeffjkjdadaaGvf
import Derived.Test.YtllgeffjkjdadaaGvg
namespace Go.Proofs.Ytllgeffjkjdadaa.V
set_option linter.unusedVariables false
set_option linter.unusedSimpArgs false
open Go.RowKit
open T
open I (It Lb ItemsIn ItemsAt ItemsOk itCells itCells_snoc itCells_at items_cells items_own own_at own_below infoItem alloc1)

/-- A cell of a block that is there. -/
structure CA (w : World) (b o : Nat) (v : Value) : Prop where
  lt : b < w.heap.size
  at0 : w.cell? ⟨b, o, none⟩ = some v
theorem CA.kept {w w' : World} {b o : Nat} {v : Value} (h : CA w b o v) (hb : Below w.heap.size w w') : w'.cell? ⟨b, o, none⟩ = some v := (hb.cell h.lt).trans h.at0
theorem CA.on {w w' : World} {b o : Nat} {v : Value} (h : CA w b o v) (hb : Below w.heap.size w w') : CA w' b o v := ⟨Nat.lt_of_lt_of_le h.lt hb.size, h.kept hb⟩
/-- What the law asks of a view. -/
structure Ended (o : Lb) (l : List It) (ls : List (List UInt8 × Bool)) (ts ds : List Int) (at_ : Nat → Nat) : Prop where
  l1 : ls.length = ts.length
  l2 : ds.length = ts.length
  lt : ∀ i, i < ts.length → at_ i < l.length
  is : ∀ i (hi : i < ts.length), ts[i] = (at_ i : Int)
  up : ∀ i, i + 1 < ts.length → at_ i < at_ (i + 1)
  id : ∀ i (hi : i < ds.length) (hj : at_ i < l.length), ds[i] = l[at_ i].id
  see : ∀ i (_ : i < ts.length) (hj : at_ i < l.length), sees o l[at_ i] = true
  ba : ∀ i (hi : i < ls.length) (hj : at_ i < l.length), ls[i].2 = (decide (i + 1 = ts.length) && l[at_ i].ba)

end Go.Proofs.Ytllgeffjkjdadaa.V

namespace Go.Proofs.Ytllgeffjkjdadaa.V
set_option linter.unusedVariables false
set_option linter.unusedSimpArgs false
open Go.RowKit
open T
open I (It Lb ItemsIn ItemsAt ItemsOk itCells itCells_snoc itCells_at items_cells items_own own_at own_below infoItem alloc1)

theorem itCells_append (a b : List It) : itCells (a ++ b) = itCells a ++ itCells b := by simp [itCells]
theorem itCells_length (a : List It) : (itCells a).length = a.length * 6 := by
  induction a with
  | nil => rfl
  | cons x r ih => simp only [itCells, List.flatMap_cons, List.length_append, List.length_cons, List.length_nil] at ih ⊢; omega
theorem itCells_one (a : List It) : ∀ u ∈ itCells a, u.oneCell' = true := by
  intro u hu
  simp only [itCells, List.mem_flatMap] at hu
  obtain ⟨x, _, hu⟩ := hu
  simp at hu
  rcases hu with rfl | rfl | rfl | rfl | rfl | rfl <;> rfl
/-- Cells of items, one by one. -/
theorem its_cells {w : World} {bk off : Nat} {xs : List It} (h : ItemsAt w bk off xs) : ∀ j u, (itCells xs)[j]? = some u → w.cell? ((⟨bk, off, none⟩ : Addr).add j) = some u := by
  intro j u hu
  have hj : j < xs.length * 6 := by rw [← itCells_length]; exact (List.getElem?_eq_some_iff.1 hu).1
  have hq : j / 6 < xs.length := by omega
  obtain ⟨h0, h1, h2, h3, h4, h5⟩ := itCells_at xs (j / 6) hq
  obtain ⟨c0, c1, c2, c3, c4, c5⟩ := h (j / 6) hq
  have hd : j = j / 6 * 6 + j % 6 := by omega
  have hm : j % 6 < 6 := Nat.mod_lt _ (by omega)
  rw [show (⟨bk, off, none⟩ : Addr).add j = ⟨bk, off + j, none⟩ by simp [Addr.add]]
  have key : ∀ r, j % 6 = r → j = j / 6 * 6 + r := fun r hr => by omega
  match hr : j % 6, hm with
  | 0, _ => rw [key 0 hr, Nat.add_zero] at hu ⊢; rw [h0] at hu; rw [c0]; exact hu
  | 1, _ => rw [key 1 hr] at hu ⊢; rw [h1] at hu; rw [← Nat.add_assoc, c1]; exact hu
  | 2, _ => rw [key 2 hr] at hu ⊢; rw [h2] at hu; rw [← Nat.add_assoc, c2]; exact hu
  | 3, _ => rw [key 3 hr] at hu ⊢; rw [h3] at hu; rw [← Nat.add_assoc, c3]; exact hu
  | 4, _ => rw [key 4 hr] at hu ⊢; rw [h4] at hu; rw [← Nat.add_assoc, c4]; exact hu
  | 5, _ => rw [key 5 hr] at hu ⊢; rw [h5] at hu; rw [← Nat.add_assoc, c5]; exact hu
theorem its_take {w : World} {bk off : Nat} {xs : List It} (h : ItemsAt w bk off xs) (n : Nat) : ItemsAt w bk off (xs.take n) := fun j hj => by
  have hj' : j < xs.length := by rw [List.length_take] at hj; omega
  have := h j hj'
  simp only [List.getElem_take]
  exact this
theorem its_drop {w : World} {bk off : Nat} {xs : List It} (h : ItemsAt w bk off xs) (n : Nat) : ItemsAt w bk (off + n * 6) (xs.drop n) := fun j hj => by
  have hj' : n + j < xs.length := by rw [List.length_drop] at hj; omega
  have := h (n + j) hj'
  simp only [List.getElem_drop]
  rw [show off + n * 6 + j * 6 = off + (n + j) * 6 by omega]
  exact this
/-- What the law asks. -/
structure Putting (l ml : List It) (f0 : Int) (f1 : Nat) (tx : List UInt8) (ls ms : List (List UInt8 × Bool)) (hs hm : List (List UInt8 × Bool)) (k at_ : Nat) : Prop where
  m : ml = l.take at_ ++ [⟨0, f0, f1, false, tx, false⟩] ++ l.drop at_
  le : at_ ≤ l.length
  kl : k ≤ ls.length
  l1 : ms.length = ls.length + 1
  new : ∀ hk : k < ms.length, ms[k].1 = tx
  lo : ∀ j (h1 : j < ls.length) (h2 : j < ms.length), j < k → ms[j].1 = ls[j].1
  hi : ∀ j (h1 : j < ls.length) (h2 : j + 1 < ms.length), k ≤ j → ms[j + 1].1 = ls[j].1
  l2 : hm.length = hs.length + 1

/-- What lies in memory when both views are asked for once more. -/
structure PutC (w : World) (g : Nat) (A M : Option Addr) (l ml : List It) (j0 : Int) (j1 : Nat) (W' : World) : Prop where
  u : ItemsIn W' A l
  m : ItemsIn W' M ml
  b : Below w.heap.size w W'
  g : W'.heap[g]? = some (.cells #[.int .i64 j0, .int .u64 (j1 : Int)] 25 (0, 0))
theorem PutC.below {w : World} {g : Nat} {A M : Option Addr} {l ml : List It} {j0 : Int} {j1 : Nat} {W' W2 : World} (h : PutC w g A M l ml j0 j1 W') (hb : Below W'.heap.size W' W2) : PutC w g A M l ml j0 j1 W2 :=
  ⟨h.u.below hb, h.m.below hb, h.b.trans (hb.mono h.b.size), (hb.block _ (L.blk_lt h.g)).trans h.g⟩
abbrev PutS (w : World) (g : Nat) (A M : Option Addr) (l ml : List It) (j0 : Int) (j1 : Nat) (W' : World) : Prop :=
  W'.cell? ⟨g, 0, none⟩ = some (.int .i64 j0) ∧ W'.cell? ⟨g, 1, none⟩ = some (.int .u64 (j1 : Int)) ∧ PutC w g A M l ml j0 j1 W'
theorem PutC.is {w : World} {g : Nat} {A M : Option Addr} {l ml : List It} {j0 : Int} {j1 : Nat} {W' : World} (h : PutC w g A M l ml j0 j1 W') : PutS w g A M l ml j0 j1 W' := ⟨(lab_cells h.g).1, (lab_cells h.g).2, h⟩
theorem puts_below {w : World} {g : Nat} {A M : Option Addr} {l ml : List It} {j0 : Int} {j1 : Nat} {W' W2 : World} (h : PutS w g A M l ml j0 j1 W') (hb : Below W'.heap.size W' W2) : PutS w g A M l ml j0 j1 W2 := (h.2.2.below hb).is

set_option maxRecDepth 100000 in
set_option maxHeartbeats 8000000 in
theorem vputs_law {A : Option Addr} {cap : Nat} {l ml : List It} {f0 g0 j0 : Int} {f1 g1 j1 iv k at_ : Nat} {tx : List UInt8} {ls ms hs hm : List (List UInt8 × Bool)} {ts us hts hus : List Int} {w : World} (hcap : l.length ≤ cap) (hcn : A = none → cap = 0) (hsm : l.length ≤ 4194304) (hhs : hs.length ≤ 4194304) (hlt : ls.length = ts.length) (hts0 : ts.length ≤ l.length) (hiv : iv < 256) (HU : Hid (ItemsIn w A l))
    (VO : Hid (VoC 6 A l.length cap f0 f1 ⟨#[46, 46, 46]⟩ l ls ts)) (hk : iv % (ts.length + 1) = k) (AF : Hid (AfC 7 ts (k : Int) (at_ : Int) 0)) (VM : Hid (∀ (A : Option Addr) (cap : Nat), VoC 6 A ml.length cap f0 f1 ⟨#[46, 46, 46]⟩ ml ms us)) (HPT : Hid (Putting l ml f0 f1 tx ls ms hs hm k at_))
    (RJ : Hid (RjC f0 g0 j0 f1 g1 j1)) (VH : Hid (VoC 6 A l.length cap j0 j1 ⟨#[46, 46, 46]⟩ l hs hts)) (VG : Hid (∀ (A : Option Addr) (cap : Nat), VoC 6 A ml.length cap j0 j1 ⟨#[46, 46, 46]⟩ ml hm hus)) (LV : Hid (LvC 9)) :
    Calls Try.prog 3 #[.slice A l.length cap, .agg #[.int .i64 f0, .int .u64 (f1 : Int)], .int .u8 (iv : Int), .string ⟨tx.toArray⟩, .agg #[.int .i64 g0, .int .u64 (g1 : Int)]] w fun e w' => e = .returned (.bool true) ∧ Below w.heap.size w w' := by
  obtain ⟨i0, hi0, hz0, hz1, hz2⟩ := info_parts infoItem
  have HLT := Lib.hid hlt
  have HTL := Lib.hid hts0
  have HKK := Lib.hid hk
  clear hlt hts0 hk
  obtain ⟨x, hx⟩ : ∃ x : ByteArray, x = ⟨tx.toArray⟩ := ⟨_, rfl⟩
  rw [← hx]
  have HX := Lib.hid hx
  clear hx
  obtain ⟨W0, hW0⟩ : ∃ W0 : World, W0 = (w.alloc (.cells #[.int .i64 f0, .int .u64 (f1 : Int)] 25)).alloc (.cells #[.int .i64 g0, .int .u64 (g1 : Int)] 25) := ⟨_, rfl⟩
  have HB := Lib.hid (show Below w.heap.size w W0 by rw [hW0]; exact (alloc1 _ _).alloc (by simp) _)
  have HP := Lib.hid (show W0.heap[w.heap.size]? = some (.cells #[.int .i64 f0, .int .u64 (f1 : Int)] 25 (0, 0)) by rw [hW0]; exact (L.two_blocks w _ _).1)
  have HQ := Lib.hid (show W0.heap[w.heap.size + 1]? = some (.cells #[.int .i64 g0, .int .u64 (g1 : Int)] 25 (0, 0)) by rw [hW0]; exact (L.two_blocks w _ _).2)
  obtain ⟨x0, x1⟩ := lab_cells HP.out
  rw [hW0] at x0 x1
  go_enter Try.func3, Try.ntmps3
  go_wp2_with fail
  rw [← hW0]
  clear hW0 x0 x1
  replace HU := Lib.hid (HU.out.below HB.out)
  with_reducible refine (VO.out.at W0 HU.out).mono ?_
  rintro e w1 ⟨L1, lc1, T1, tc1, rfl, hl1, ht1, hb1⟩
  obtain ⟨W1, hW1⟩ : ∃ W : World, W = w1.alloc (.cells #[.slice L1 ls.length lc1, .slice T1 ts.length tc1] 29) := ⟨_, rfl⟩
  have ha1 : Below w1.heap.size w1 W1 := by rw [hW1]; exact alloc1 _ _
  have hb1' : Below W0.heap.size W0 W1 := hb1.trans (ha1.mono hb1.size)
  have HP1 := Lib.hid (show W1.heap[w1.heap.size]? = some (.cells #[.slice L1 ls.length lc1, .slice T1 ts.length tc1] 29 (0, 0)) by rw [hW1]; exact heap_alloc_new w1 _)
  have HL1 := Lib.hid ((lines_own hl1).below ha1)
  have HT1 := Lib.hid ((ints_own ht1).below ha1)
  replace HU := Lib.hid (HU.out.below hb1')
  replace HB := Lib.hid (HB.out.trans (Below.mono hb1' HB.out.size))
  replace HP := Lib.hid ((Below.block hb1' _ (L.blk_lt HP.out)).trans HP.out)
  replace HQ := Lib.hid ((Below.block hb1' _ (L.blk_lt HQ.out)).trans HQ.out)
  obtain ⟨y0, y1⟩ := view_cells HP1.out
  rw [hW1] at y0 y1
  clear hb1 hb1' ha1 hl1 ht1 VO
  have hp1 : IntKind.i64.wrap ((ts.length : Int) + 1) = (ts.length : Int) + 1 := by rw [IntKind.wrap_i64]; have := HTL.out; omega
  have hp2 : ((ts.length : Int) + 1 == 0) = false := by rw [beq_eq_false_iff_ne]; omega
  go_upto_region 3 with fail
  rw [← hW1]
  have hkv : (iv : Int) % ((ts.length : Int) + 1) = (k : Int) := by
    have h := HKK.out
    have h2 : (((iv % (ts.length + 1) : Nat)) : Int) = (iv : Int) % ((ts.length + 1 : Nat) : Int) := Int.natCast_emod _ _
    rw [h] at h2
    rw [h2]
    rfl
  rw [hkv]
  obtain ⟨v1, hv1⟩ : ∃ v, v = w1.heap.size := ⟨_, rfl⟩
  rw [← hv1]
  rw [← hv1] at HP1
  clear hW1 y0 y1 hv1 hp1 hp2
  obtain ⟨y0, y1⟩ := view_cells HP1.out
  go_wp2_with fail
  clear y0 y1 hkv
  with_reducible refine (AF.out.at W1 HT1.out).mono ?_
  rintro e w3 ⟨rfl, hb3⟩
  replace HU := Lib.hid (HU.out.below hb3)
  replace HB := Lib.hid (HB.out.trans (Below.mono hb3 HB.out.size))
  replace HP := Lib.hid ((Below.block hb3 _ (L.blk_lt HP.out)).trans HP.out)
  replace HQ := Lib.hid ((Below.block hb3 _ (L.blk_lt HQ.out)).trans HQ.out)
  replace HP1 := Lib.hid ((Below.block hb3 _ (L.blk_lt HP1.out)).trans HP1.out)
  replace HL1 := Lib.hid (HL1.out.below hb3)
  clear hb3 AF HT1
  have hle := HPT.out.le
  have ha0 : decide ((at_ : Int) < 0) = false := decide_eq_false (by omega)
  have ha1 : decide ((l.length : Int) < (at_ : Int)) = false := decide_eq_false (by omega)
  have ha2 : decide (l.length < at_) = false := decide_eq_false (by omega)
  go_upto_region 6 with fail
  clear ha0 ha1 ha2
  go_cut [15] (fun v wx => wx.ownsRow w3.heap.size 37 6 v at_ (itCells (l.take at_)) ∧ Hid (Below w3.heap.size w3 wx))
  case first =>
    have hown0 : (w3.alloc (.cells #[] 37)).ownsRow w3.heap.size 37 6 (.slice (some ⟨w3.heap.size, 0, none⟩) 0 0) 0 [] := World.ownsRow_made w3 #[] 0 (Nat.le_refl _) (Nat.zero_le _) rfl
    have HUA := Lib.hid (HU.out.below (alloc1 w3 (.cells #[] 37)))
    cases A with
    | none =>
      have hl0 : l = [] := by
        rcases Nat.eq_zero_or_pos l.length with h0 | hp
        · exact List.length_eq_zero_iff.1 h0
        · obtain ⟨_, _, h0, _⟩ := HU.out hp; cases h0
      have hat : at_ = 0 := by rw [hl0] at hle; simpa using hle
      subst hat
      obtain rfl := hcn rfl
      subst hl0
      go_wp2_with (at_builtin; refine wpList_append_own_none rfl (.tmp 48) (.tmp 51) 22 rfl w3.heap.size 37 i0 6 Try.underlying22 hi0 _ 0 [] rfl hown0 rfl ?_)
      go_meet
      case rel => exact ⟨hown0, Lib.hid (alloc1 _ _)⟩
    | some ad =>
      have hc1 : (at_ : Int) ≤ (cap : Int) := by omega
      have hc2 : at_ ≤ cap := by omega
      have h0a : (0 : Int) ≤ (at_ : Int) := by omega
      go_wp2_with (at_builtin; refine wpList_append_own _ rfl (.tmp 48) (.tmp 51) 22 rfl w3.heap.size 37 i0 _ 6 56 Try.underlying22 hi0 hz0 hz1 hz2 rfl (by decide) _ 0 [] rfl hown0 ad at_ cap (itCells (l.take at_)) rfl ?c0 ?c1 (itCells_one _) ?c3 ?c4 ?c5 ?_)
      case c0 => rw [itCells_length, List.length_take, Nat.min_eq_left hle]
      case c1 =>
        intro j u hu
        by_cases h0 : 0 < l.length
        · obtain ⟨bk, off, e, -, hI⟩ := HUA.out h0
          obtain rfl := Option.some.inj e
          exact its_cells (its_take hI at_) j u hu
        · have hj := (List.getElem?_eq_some_iff.1 hu).1
          rw [itCells_length, List.length_take] at hj
          omega
      case c3 => simp only [maxLen]; omega
      case c4 => omega
      case c5 => simp
      intro v' w4 hown4 hg4 _
      have hb4 : Below w3.heap.size w3 w4 := (alloc1 w3 (.cells #[] 37)).grown hg4 (by simp) (fun q hq => by simp [Value.ownBlock] at hq; omega)
      try rw [Nat.zero_add] at hown4
      try rw [List.nil_append] at hown4
      go_wp2_with fail
      go_meet
      case rel => exact ⟨hown4, Lib.hid hb4⟩
  case rest =>
  obtain ⟨hown5, HB5⟩ := hcut
  generalize wc = w5 at *
  have hs5 : w3.heap.size ≤ w5.heap.size := HB5.out.size
  obtain ⟨z0, z1⟩ := lab_cells ((Below.block HB5.out _ (L.blk_lt HP.out)).trans HP.out)
  go_upto_region 7 with fail
  go_cut [15] (fun v wx => wx.ownsRow w3.heap.size 37 6 v (at_ + 1) (itCells (l.take at_ ++ [⟨0, f0, f1, false, tx, false⟩])) ∧ Hid (Below w3.heap.size w3 wx))
  case first =>
    go_wp2_with (at_builtin; refine wpList_append_own _ rfl (.tmp 53) (.tmp 58) 22 rfl w3.heap.size 37 i0 _ 6 56 Try.underlying22 hi0 hz0 hz1 hz2 rfl (by decide) _ at_ (itCells (l.take at_)) rfl (hown5.alloc _) ⟨w5.heap.size, 0, none⟩ 1 1 [.int .i64 0, .int .i64 f0, .int .u64 (f1 : Int), .bool false, .string x, .bool false] rfl rfl (World.news_of_block (heap_alloc_new w5 _)) ?c2 ?c3 ?c4 ?c5 ?_)
    case c2 => first | exact ⟨rfl, rfl, rfl, rfl, rfl, rfl⟩ | (intro u hu; simp at hu; rcases hu with rfl | rfl | rfl | rfl | rfl | rfl <;> rfl)
    case c3 => simp only [maxLen]; omega
    case c4 => omega
    case c5 => first | omega | (simp; omega)
    intro v' w6 hown6 hg6 _
    have hb6 : Below w3.heap.size w3 w6 := (HB5.out.trans ((alloc1 w5 (.cells #[.int .i64 0, .int .i64 f0, .int .u64 (f1 : Int), .bool false, .string x, .bool false] 37)).mono hs5)).grown hg6 (by simp; omega) (own_base hown5)
    have e1 : itCells (l.take at_) ++ [.int .i64 0, .int .i64 f0, .int .u64 (f1 : Int), .bool false, .string x, .bool false] = itCells (l.take at_ ++ [(⟨0, f0, f1, false, tx, false⟩ : It)]) := by rw [itCells_snoc, HX.out]
    rw [e1] at hown6
    clear e1
    go_wp2_with fail
    go_meet
    case rel => exact ⟨hown6, Lib.hid hb6⟩
  case rest =>
  obtain ⟨hown7, HB7⟩ := hcut
  clear hown5 HB5 z0 z1
  generalize wc = w7 at *
  have hs7 : w3.heap.size ≤ w7.heap.size := HB7.out.size
  have HU7 := Lib.hid (HU.out.below HB7.out)
  go_upto_region 8 with fail
  go_cut [15] (fun v wx => wx.ownsRow w3.heap.size 37 6 v ml.length (itCells ml) ∧ Hid (Below w3.heap.size w3 wx))
  case first =>
    have HM := Lib.hid HPT.out.m
    cases A with
    | none =>
      have hl0 : l = [] := by
        rcases Nat.eq_zero_or_pos l.length with h0 | hp
        · exact List.length_eq_zero_iff.1 h0
        · obtain ⟨_, _, h0, _⟩ := HU.out hp; cases h0
      have hat : at_ = 0 := by rw [hl0] at hle; simpa using hle
      subst hat
      obtain rfl := hcn rfl
      subst hl0
      have hml : ml = [⟨0, f0, f1, false, tx, false⟩] := by rw [HM.out]; rfl
      rw [List.take_nil, List.nil_append] at hown7
      go_wp2_with (at_builtin; refine wpList_append_own_none rfl (.tmp 60) (.tmp 63) 22 rfl w3.heap.size 37 i0 6 Try.underlying22 hi0 _ _ _ rfl hown7 rfl ?_)
      go_meet
      case rel => exact ⟨by rw [hml]; exact hown7, HB7⟩
    | some ad =>
      have hc1 : (at_ : Int) ≤ (l.length : Int) := by omega
      have hc2 : (l.length : Int) ≤ (cap : Int) := by omega
      have hc3 : at_ ≤ l.length := by omega
      have h0a : (0 : Int) ≤ (at_ : Int) := by omega
      have HML : Hid (ml.length = at_ + 1 + (l.length - at_)) := Lib.hid (by rw [HM.out]; simp; omega)
      have HMC : Hid (itCells ml = itCells (l.take at_ ++ [⟨0, f0, f1, false, tx, false⟩]) ++ itCells (l.drop at_)) := Lib.hid (by rw [HM.out, itCells_append])
      have HDC : Hid ((itCells (l.drop at_)).length = (l.length - at_) * 6) := Lib.hid (by rw [itCells_length, List.length_drop])
      by_cases hq : at_ < l.length
      · obtain ⟨bk, off, e, -, hI⟩ := HU7.out (by omega)
        obtain rfl := Option.some.inj e
        have HNW := Lib.hid (its_cells (its_drop hI at_))
        have hc4 : (at_ : Int) < (cap : Int) := by omega
        have hc5 : ¬ cap = at_ := by omega
        have hc6 : ¬ at_ = cap := by omega
        clear e hI
        go_wp2_with (at_builtin; refine wpList_append_own _ rfl (.tmp 60) (.tmp 63) 22 rfl w3.heap.size 37 i0 _ 6 56 Try.underlying22 hi0 hz0 hz1 hz2 rfl (by decide) _ (at_ + 1) _ rfl hown7 ⟨bk, off + at_ * 6, none⟩ (l.length - at_) (cap - at_) (itCells (l.drop at_)) rfl (HDC.out) (HNW.out) (itCells_one _) (by simp only [maxLen]; omega) (by omega) hs7 ?_; intro v' w8 hown8 hg8 _; have HO8 := Lib.hid hown8; have HG8 := Lib.hid hg8; clear hown8 hg8)
        have HB8 : Hid (Below w3.heap.size w3 w8) := Lib.hid (HB7.out.grown HG8.out hs7 (own_base hown7))
        go_wp2_with fail
        go_meet
        case rel => exact ⟨by rw [HML.out, HMC.out]; exact HO8.out, HB8⟩
      · have hat : l.length - at_ = 0 := by omega
        have hd : l.drop at_ = [] := List.drop_eq_nil_of_le (by omega)
        have HMQ : Hid (ml.length = at_ + 1 + 0 ∧ itCells ml = itCells (l.take at_ ++ [⟨0, f0, f1, false, tx, false⟩]) ++ []) := Lib.hid (by rw [HML.out, HMC.out, hd, hat]; exact ⟨rfl, by simp [itCells]⟩)
        clear hd
        by_cases hcm : cap = at_
        · subst hcm
          go_wp2_with (at_builtin; go_loud (refine wpList_append_own _ rfl (.tmp 60) (.tmp 63) 22 rfl w3.heap.size 37 i0 _ 6 56 Try.underlying22 hi0 hz0 hz1 hz2 rfl (by decide) _ (_ + 1) _ rfl hown7 _ 0 _ [] rfl rfl (by intro j u h; simp at h) (by simp) (by simp only [maxLen]; omega) (by omega) hs7 ?_); intro v' w8 hown8 hg8 _; have HO8 := Lib.hid hown8; have HG8 := Lib.hid hg8; clear hown8 hg8)
          have HB8 : Hid (Below w3.heap.size w3 w8) := Lib.hid (HB7.out.grown HG8.out hs7 (own_base hown7))
          go_wp2_with fail
          go_meet
          case rel => exact ⟨by rw [HMQ.out.1, HMQ.out.2]; exact HO8.out, HB8⟩
        · have hc6 : ¬ at_ = cap := fun e => hcm e.symm
          have hc4 : (at_ : Int) < (cap : Int) := by omega
          go_wp2_with (at_builtin; go_loud (refine wpList_append_own _ rfl (.tmp 60) (.tmp 63) 22 rfl w3.heap.size 37 i0 _ 6 56 Try.underlying22 hi0 hz0 hz1 hz2 rfl (by decide) _ (at_ + 1) _ rfl hown7 _ 0 _ [] rfl rfl (by intro j u h; simp at h) (by simp) (by simp only [maxLen]; omega) (by omega) hs7 ?_); intro v' w8 hown8 hg8 _; have HO8 := Lib.hid hown8; have HG8 := Lib.hid hg8; clear hown8 hg8)
          have HB8 : Hid (Below w3.heap.size w3 w8) := Lib.hid (HB7.out.grown HG8.out hs7 (own_base hown7))
          go_wp2_with fail
          go_meet
          case rel => exact ⟨by rw [HMQ.out.1, HMQ.out.2]; exact HO8.out, HB8⟩
  case rest =>
  obtain ⟨hown9, HB9⟩ := hcut
  clear hown7 HB7 HU7 hs7
  generalize wc = w9 at *
  obtain ⟨M, mc, rfl, -, -⟩ := own_form hown9
  have HMI := Lib.hid (items_own hown9)
  replace HU := Lib.hid (HU.out.below HB9.out)
  replace HL1 := Lib.hid (HL1.out.below HB9.out)
  replace HP := Lib.hid ((Below.block HB9.out _ (L.blk_lt HP.out)).trans HP.out)
  replace HQ := Lib.hid ((Below.block HB9.out _ (L.blk_lt HQ.out)).trans HQ.out)
  replace HP1 := Lib.hid ((Below.block HB9.out _ (L.blk_lt HP1.out)).trans HP1.out)
  replace HB := Lib.hid (HB.out.trans (HB9.out.mono HB.out.size))
  clear HB9 hown9 hs5
  obtain ⟨z0, z1⟩ := lab_cells HP.out
  go_wp2_with fail
  with_reducible refine ((VM.out M mc).at w9 HMI.out).mono ?_
  rintro e w10 ⟨L2, lc2, T2, tc2, rfl, hl2, ht2, hb2⟩
  obtain ⟨W2, hW2⟩ : ∃ W : World, W = w10.alloc (.cells #[.slice L2 ms.length lc2, .slice T2 us.length tc2] 29) := ⟨_, rfl⟩
  have ha2 : Below w10.heap.size w10 W2 := by rw [hW2]; exact alloc1 _ _
  have hb2' : Below w9.heap.size w9 W2 := hb2.trans (ha2.mono hb2.size)
  have HP2 := Lib.hid (show W2.heap[w10.heap.size]? = some (.cells #[.slice L2 ms.length lc2, .slice T2 us.length tc2] 29 (0, 0)) by rw [hW2]; exact heap_alloc_new w10 _)
  have HL2 := Lib.hid ((lines_own hl2).below ha2)
  replace HMI := Lib.hid (HMI.out.below hb2')
  replace HU := Lib.hid (HU.out.below hb2')
  replace HB := Lib.hid (HB.out.trans (Below.mono hb2' HB.out.size))
  replace HL1 := Lib.hid (HL1.out.below hb2')
  replace HP := Lib.hid ((Below.block hb2' _ (L.blk_lt HP.out)).trans HP.out)
  replace HQ := Lib.hid ((Below.block hb2' _ (L.blk_lt HQ.out)).trans HQ.out)
  replace HP1 := Lib.hid ((Below.block hb2' _ (L.blk_lt HP1.out)).trans HP1.out)
  clear hb2 hb2' ha2 hl2 ht2 VM z0 z1
  go_upto_region 10 with fail
  rw [← hW2]
  obtain ⟨v2, hv2⟩ : ∃ v, v = w10.heap.size := ⟨_, rfl⟩
  rw [← hv2]
  rw [← hv2] at HP2
  clear hW2 hv2
  obtain ⟨x0, x1⟩ := view_cells HP1.out
  obtain ⟨y0, y1⟩ := view_cells HP2.out
  have hml := HPT.out.l1
  have hkl := HPT.out.kl
  have hlm := HLT.out
  have hkm : k < ms.length := by omega
  have HNW := Lib.hid (HPT.out.new hkm)
  obtain ⟨b2, o2, hMe, -, hN2⟩ := HL2.out (by omega)
  obtain ⟨d0, -⟩ := hN2 k hkm
  rw [HNW.out, ← HX.out] at d0
  have hlen : (ms.length : Int) = (ls.length : Int) + 1 := by omega
  have hwr : IntKind.i64.wrap ((ls.length : Int) + 1) = (ls.length : Int) + 1 := by rw [IntKind.wrap_i64]; have := HTL.out; omega
  have hk0 : (0 : Int) ≤ (k : Int) := by omega
  have hk1 : (k : Int) < (ls.length : Int) + 1 := by omega
  have hk2 : ¬ (ls.length : Int) + 1 ≤ (k : Int) := by omega
  subst hMe
  clear hml hkl hlm hN2
  go_upto_region 12 with fail
  clear hk2 hk1 hk0 d0 hwr x0 x1 y0 y1 hlen
  have hlm : ls.length ≤ l.length := by have := HLT.out; have := HTL.out; omega
  have hm1 : ls.length < ms.length := by have := HPT.out.l1; omega
  go_wp2_with fail
  go_loopg [17, 18] ls.length (fun m jv xv wr => ∃ j : Nat, j ≤ ls.length ∧ jv = .int .i64 j ∧ ls.length - j ≤ m ∧ Hid (Below W2.heap.size W2 wr))
  case atStart => exact ⟨0, Nat.zero_le _, rfl, by omega, Lib.hid (Below.refl _ _)⟩
  case round =>
    obtain ⟨j, hj, rfl, hmq, HBr⟩ := hrel
    obtain ⟨x0, x1⟩ := view_cells ((Below.block HBr.out _ (L.blk_lt HP1.out)).trans HP1.out)
    obtain ⟨y0, y1⟩ := view_cells ((Below.block HBr.out _ (L.blk_lt HP2.out)).trans HP2.out)
    by_cases hlt : j < ls.length
    · obtain ⟨b1, o1, hLe, hb1, hN1⟩ := HL1.out (by omega)
      obtain ⟨b2', o2', hMe, hb2, hN2⟩ := HL2.out (by omega)
      injection hMe with hMe
      injection hMe with e1 e2
      subst e1 e2 hLe
      have hs2 : W2.heap.size ≤ wr.heap.size := HBr.out.size
      obtain ⟨r0, r1⟩ := hN2.below HBr.out hb2 j (by omega)
      obtain ⟨s0, s1⟩ := hN2.below HBr.out hb2 (j + 1) (by omega)
      obtain ⟨t0, -⟩ := hN1.below HBr.out hb1 j hlt
      obtain ⟨rs, hrs⟩ : ∃ s : ByteArray, s = ⟨(ms[j]'(by omega)).1.toArray⟩ := ⟨_, rfl⟩
      obtain ⟨ss, hss⟩ : ∃ s : ByteArray, s = ⟨(ms[j + 1]'(by omega)).1.toArray⟩ := ⟨_, rfl⟩
      obtain ⟨ts', hts'⟩ : ∃ s : ByteArray, s = ⟨ls[j].1.toArray⟩ := ⟨_, rfl⟩
      rw [← hrs] at r0
      rw [← hss] at s0
      rw [← hts'] at t0
      have HLO := Lib.hid (fun h : j < k => show rs = ts' by rw [hrs, hts', HPT.out.lo j hlt (by omega) h])
      have HHI := Lib.hid (fun h : k ≤ j => show ss = ts' by rw [hss, hts', HPT.out.hi j hlt (by omega) h])
      clear hrs hss hts' hN1 hN2
      generalize (ms[j]'(by omega)).2 = rb at r1
      generalize (ms[j + 1]'(by omega)).2 = sb at s1
      have hj0 : (0 : Int) ≤ (j : Int) := by omega
      have hj1 : (j : Int) < (ls.length : Int) := by omega
      have hj2 : (j : Int) < (ms.length : Int) := by omega
      have hj3 : ¬ (ls.length : Int) ≤ (j : Int) := by omega
      have hj4 : ¬ (ms.length : Int) ≤ (j : Int) := by omega
      have hj5 : decide (ls.length ≤ j) = false := decide_eq_false (by omega)
      have hj6 : decide (ms.length ≤ j) = false := decide_eq_false (by omega)
      obtain ⟨W3, hW3⟩ : ∃ W : World, W = wr.alloc (.cells #[.string rs, .bool rb] 35) := ⟨_, rfl⟩
      have hb3 : Below wr.heap.size wr W3 := by rw [hW3]; exact alloc1 _ _
      have HX3 : W3.heap[wr.heap.size]? = some (.cells #[.string rs, .bool rb] 35 (0, 0)) := by rw [hW3]; exact heap_alloc_new wr _
      have hc3 : ∀ b o, b < wr.heap.size → W3.cell? ⟨b, o, none⟩ = wr.cell? ⟨b, o, none⟩ := fun b o hb => hb3.cell (p := ⟨b, o, none⟩) hb
      by_cases hjk : j < k
      · obtain rfl := HLO.out hjk
        have q0 := L.blk_cell HX3 0
        have x0' := (hc3 v1 0 (by have := L.blk_lt HP1.out; omega)).trans x0
        have t0' := (hc3 b1 (o1 + j * 2) (by omega)).trans t0
        have hk1 : ¬ (k : Int) ≤ (j : Int) := by omega
        have hk2 : (j : Int) < (k : Int) := by omega
        clear HLO HHI s0 s1
        go_upto_region 18 with fail
        rw [← hW3]
        clear hW3 x0 x1 y0 y1 r0 r1 t0
        have HB3 := Lib.hid (HBr.out.trans (hb3.mono hs2))
        go_quiet (fail)
        go_wp2_with fail
        go_roundg (ls.length - (j + 1))
        case rel => exact ⟨j + 1, by omega, by go_num, Nat.le_refl _, Lib.hid (HB3.out.trans ((drawn_below W3 _).mono HB3.out.size))⟩
        case measure => omega
      · obtain rfl := HHI.out (by omega)
        have hk1 : (k : Int) ≤ (j : Int) := by omega
        have hk2 : ¬ (j : Int) < (k : Int) := by omega
        have y0' := (hc3 v2 0 (by have := L.blk_lt HP2.out; omega)).trans y0
        have s0' := (hc3 b2 (o2 + (j + 1) * 2) (by omega)).trans s0
        have s1' := (hc3 b2 (o2 + (j + 1) * 2 + 1) (by omega)).trans s1
        have hj7 : (j : Int) + 1 < (ms.length : Int) := by omega
        have hj8 : ¬ (ms.length : Int) ≤ (j : Int) + 1 := by omega
        have hj9 : (0 : Int) ≤ (j : Int) + 1 := by omega
        have hja : decide (ms.length ≤ j + 1) = false := decide_eq_false (by omega)
        have hwr : IntKind.i64.wrap ((j : Int) + 1) = (j : Int) + 1 := by rw [IntKind.wrap_i64]; omega
        have q0 := L.blk_cell HX3 0
        have q1 := L.blk_cell HX3 1
        have x0k := x0
        have f0' := L.blk_free HX3 0
        have f1' := L.blk_free HX3 1
        clear HLO HHI
        go_upto_region 17 with fail
        rw [← hW3]
        clear hW3 x0 x1 y0 y1 r0 r1 s0 s1
        go_upto_region 18 with fail
        obtain ⟨W4, hW4⟩ : ∃ W : World, W = (W3.setCell ⟨wr.heap.size, 0, none⟩ (.string ss)).setCell ⟨wr.heap.size, 1, none⟩ (.bool sb) := ⟨_, rfl⟩
        rw [← hW4]
        have hb4 : Below wr.heap.size wr W4 := by
          rw [hW4]
          refine Below.grown (Below.grown hb3 (grown_set W3 ⟨wr.heap.size, 0, none⟩ _) hb3.size (fun q hq => by injection hq with hq; subst hq; exact Nat.le_refl _)) (grown_set _ ⟨wr.heap.size, 1, none⟩ _) ?_ (fun q hq => by injection hq with hq; subst hq; exact Nat.le_refl _)
          simpa [World.setCell] using hb3.size
        have p0 : W4.cell? ⟨wr.heap.size, 0, none⟩ = some (.string ss) := by rw [hW4]; exact L.blk_cell (L.blk_set (L.blk_set HX3 0 _) 1 _) 0
        have x0' := (hb4.cell (p := ⟨v1, 0, none⟩) (by have := L.blk_lt HP1.out; show v1 < _; omega)).trans x0k
        have t0' := (hb4.cell (p := ⟨b1, o1 + j * 2, none⟩) (by show b1 < _; omega)).trans t0
        have HB4 := Lib.hid (HBr.out.trans (hb4.mono hs2))
        clear hW4 hb4 q0 q1 f0' f1' y0' s0' s1' t0
        go_quiet (fail)
        go_wp2_with fail
        go_roundg (ls.length - (j + 1))
        case rel => exact ⟨j + 1, by omega, by go_num, Nat.le_refl _, Lib.hid (HB4.out.trans ((drawn_below W4 _).mono HB4.out.size))⟩
        case measure => omega
    · obtain rfl : j = ls.length := by omega
      replace HB := Lib.hid (HB.out.trans (HBr.out.mono HB.out.size))
      replace HMI := Lib.hid (HMI.out.below (HBr.out.mono (Nat.le_refl _)))
      replace HU := Lib.hid (HU.out.below (HBr.out.mono (Nat.le_refl _)))
      replace HP := Lib.hid ((Below.block HBr.out _ (L.blk_lt HP.out)).trans HP.out)
      replace HQ := Lib.hid ((Below.block HBr.out _ (L.blk_lt HQ.out)).trans HQ.out)
      clear HBr HP1 HP2 HL1 HL2
      obtain ⟨a0, a1⟩ := lab_cells HP.out
      obtain ⟨b0, b1⟩ := lab_cells HQ.out
      go_upto_region 20 with fail
      clear x0 x1 y0 y1
      go_wp2_with fail
      with_reducible refine (RJ.out.at wr).mono ?_
      rintro e w12 ⟨rfl, hb12⟩
      replace HMI := Lib.hid (HMI.out.below hb12)
      replace HU := Lib.hid (HU.out.below hb12)
      replace HB := Lib.hid (HB.out.trans (hb12.mono HB.out.size))
      clear hb12 HP HQ a0 a1 b0 b1 RJ
      obtain ⟨W5, hW5⟩ : ∃ W : World, W = w12.alloc (.cells #[.int .i64 j0, .int .u64 (j1 : Int)] 25) := ⟨_, rfl⟩
      have hb5 : Below w12.heap.size w12 W5 := by rw [hW5]; exact alloc1 _ _
      have HPC : Hid (PutC w w12.heap.size A M l ml j0 j1 W5) := Lib.hid ⟨HU.out.below hb5, HMI.out.below hb5, HB.out.trans (hb5.mono HB.out.size), by rw [hW5]; exact heap_alloc_new w12 _⟩
      go_upto_region 21 with fail
      rw [← hW5]
      clear hW5 hb5 HU HMI HB
      generalize w12.heap.size = g at *
      have hlen2 : (hm.length : Int) = (hs.length : Int) + 1 := by have := HPT.out.l2; omega
      have hwr2 : IntKind.i64.wrap ((hs.length : Int) + 1) = (hs.length : Int) + 1 := by rw [IntKind.wrap_i64]; omega
      have fv := field_view0
      have HS0 := Lib.hid ((HPC.out.below ((Below.refl _ _).drew)).is)
      clear HPC HPT
      go_region_held3 (PutS w g A M l ml j0 j1)
        (first | with_reducible exact HS0.out | with_reducible exact puts_below (by assumption) hbq)
        (first
          | (go_at_call 9; with_reducible refine (LV.out.at _).mono ?_; rintro r wq ⟨rfl, hbq⟩)
          | (go_at_call 6; with_reducible refine (VH.out.at _ (PutC.u (And.right (And.right (by assumption))))).mono ?_; rintro r wq hv; unfold VoEnd at hv; obtain ⟨L8, lc8, T8, tc8, rfl, hv1, hv2, hbq⟩ := hv; clear hv1 hv2)
          | (go_at_call 6; with_reducible refine ((VG.out M mc).at _ (PutC.m (And.right (And.right (by assumption))))).mono ?_; rintro r wq hv; unfold VoEnd at hv; obtain ⟨L7, lc7, T7, tc7, rfl, hv1, hv2, hbq⟩ := hv; clear hv1 hv2))
      all_goals
        have HS := Lib.hid (show PutS w g A M l ml j0 j1 wq by assumption)
        go_wp2_with fail
        go_ret
        exact ⟨rfl, HS.out.2.2.b⟩
end Go.Proofs.Ytllgeffjkjdadaa.V

namespace Go.Proofs.Ytllgeffjkjdadaa.V
set_option linter.unusedVariables false
set_option linter.unusedSimpArgs false
open Go.RowKit
open T
open I (It Lb ItemsIn ItemsAt ItemsOk itCells itCells_snoc itCells_at items_cells items_own own_at own_below infoItem alloc1)

theorem lvOk : ItemsOk lvIts := ⟨by decide, by decide, by decide⟩
theorem live5 : LvC 9 := by
  refine live5_walk (ls := lvLns) (ts := [0, 2]) (ds := [4, 6]) (c := lvCut) (b := P.join lvLns) (Lib.hid fun A cap => ?_) (Lib.hid ?_) (Lib.hid ?_) (Lib.hid ?_) (Lib.hid ?_) (Lib.hid fun A cap => ?_) (Lib.hid rfl) (Lib.hid ?_) (Lib.hid fun A cap => ?_) (Lib.hid rfl)
  · have := vo_is A cap lvIts (0, 0) [46, 46, 46] lvOk (by decide) (by decide)
    rw [lvLns_is, lvAts_is] at this
    exact this
  · exact af_is [0, 2] 2 (by decide) (by decide) (by decide)
  · exact fd_is [0, 2] 2 (by decide)
  · exact tx_is lvLns (by decide)
  · decide
  · exact vi_is A cap lvIts [0, 2] (by decide) (by decide)
  · exact fun W A B c c' h1 h2 => (rints_any A B c c' [4, 6] [4, 6] W (by decide) h1 h2).mono fun e w' h => ⟨by rw [h.1, decide_eq_true rfl], h.2⟩
  · have := cu_is A cap lvIts (0, 0) lvOk (by decide) (by decide)
    rw [lvCut_is] at this
    exact this

/-- The bounds of what a law asks about items. -/
structure Fits (l : List It) (o : Lb) : Prop where
  ok : ItemsOk l
  ct : o.2 < 18446744073709551616
  sz : l.length * 56 ≤ 140737488355328
theorem Fits.cut {l : List It} {o : Lb} (h : Fits l o) : Fits (cut o l) o :=
  ⟨⟨Nat.le_trans (cut_le o l) h.ok.len, fun x hx => h.ok.tx x (List.mem_filter.1 hx).1, fun x hx => h.ok.ct x (List.mem_filter.1 hx).1⟩, h.ct, Nat.le_trans (Nat.mul_le_mul_right 56 (cut_le o l)) h.sz⟩
theorem atI_length (o : Lb) (l : List It) : (atI o l).length = (cut o l).length := by unfold atI; rw [List.length_map, ats_length]
theorem Fits.at8 {l : List It} {o : Lb} (h : Fits l o) : (atI o l).length * 8 ≤ 140737488355328 := by
  have := h.sz; have := cut_le o l; rw [atI_length]; omega
theorem Fits.len {l : List It} {o : Lb} (h : Fits l o) : l.length ≤ 4194304000000 := by have := h.sz; omega
theorem Fits.atMax {l : List It} {o : Lb} (h : Fits l o) : (atI o l).length ≤ maxLen := by rw [atI_length]; exact h.cut.ok.len

theorem lns_at (h : List UInt8) {l : List It} {j : Nat} (hj : j < (lns h l).length) (hl : j < l.length) : (lns h l)[j].1 = txt h l[j] := by
  have := congrArg (fun z => z[j]?) (lns_text h l)
  simpa [List.getElem?_eq_getElem hj, List.getElem?_eq_getElem hl] using this
theorem atI_get {o : Lb} {l : List It} {j : Nat} (hj : j < (atI o l).length) : ∃ hi : ((ats o 0 l)[j]'(by simpa [atI] using hj)) < l.length, (atI o l)[j] = (((ats o 0 l)[j]'(by simpa [atI] using hj) : Nat) : Int) ∧ sees o (l[(ats o 0 l)[j]'(by simpa [atI] using hj)]) = true ∧ (cut o l)[j]? = some (l[(ats o 0 l)[j]'(by simpa [atI] using hj)]) := by
  have hj' : j < (ats o 0 l).length := by simpa [atI] using hj
  obtain ⟨hi, -, h2, h3⟩ := ats_get o l 0 j hj'
  simp only [Nat.sub_zero] at hi h2 h3
  exact ⟨hi, by simp [atI], h2, h3⟩
theorem ended_is (o : Lb) (l : List It) (h : List UInt8) : Ended o l (lns h (cut o l)) (atI o l) (ids l (atI o l)) (fun i => (ats o 0 l).getD i 0) := by
  have hg : ∀ i, i < (atI o l).length → ∃ hi : (ats o 0 l).getD i 0 < l.length, ∀ hj : i < (atI o l).length, (atI o l)[i] = (((ats o 0 l).getD i 0 : Nat) : Int) ∧ sees o l[(ats o 0 l).getD i 0] = true ∧ (cut o l)[i]? = some l[(ats o 0 l).getD i 0] := fun i hi => by
    obtain ⟨h1, h2, h3, h4⟩ := atI_get hi
    have he : (ats o 0 l).getD i 0 = (ats o 0 l)[i]'(by simpa [atI] using hi) := by rw [List.getD_eq_getElem?_getD, List.getElem?_eq_getElem (by simpa [atI] using hi)]; rfl
    simp only [he]
    exact ⟨h1, fun _ => ⟨h2, h3, h4⟩⟩
  refine ⟨by rw [lns_length, atI_length], by unfold ids; rw [List.length_map], fun i hi => (hg i hi).1, fun i hi => ((hg i hi).2 hi).1, fun i hi => ?_, fun i hi hj => ?_, fun i hi hj => ((hg i hi).2 hi).2.1, fun i hi hj => ?_⟩
  · have h1 := ats_lt o (l := l) (k := 0) (i := i) (j := i + 1) (by simpa [atI] using hi) (by omega)
    have e1 : (ats o 0 l).getD i 0 = (ats o 0 l)[i]'(Nat.lt_of_succ_lt (by simpa [atI] using hi)) := by rw [List.getD_eq_getElem?_getD, List.getElem?_eq_getElem]; rfl
    have e2 : (ats o 0 l).getD (i + 1) 0 = (ats o 0 l)[i + 1]'(by simpa [atI] using hi) := by rw [List.getD_eq_getElem?_getD, List.getElem?_eq_getElem]; rfl
    simp only [e1, e2]
    exact h1
  · have hi' : i < (atI o l).length := by simpa [ids] using hi
    have h1 := ((hg i hi').2 hi').1
    have h2 : (ids l (atI o l))[i] = idAt l (atI o l)[i] := by simp [ids]
    rw [h2, h1]
    unfold idAt
    rw [if_pos (by omega), Int.toNat_natCast, List.getElem?_eq_getElem hj]; rfl
  · have hi' : i < (atI o l).length := by rw [lns_length] at hi; rw [atI_length]; exact hi
    have hc : i < (cut o l).length := by rw [← atI_length]; exact hi'
    have h3 := ((hg i hi').2 hi').2.2
    rw [List.getElem?_eq_getElem hc] at h3
    rw [lns_bare h (cut o l) i hi hc, atI_length, Option.some.inj h3]
theorem found_is (o m : Lb) (l : List It) (h : List UInt8) : Found (atI o l) (atI (max o.1 m.1, o.2 ||| m.2) l) (lns h (cut o l)) (lns h (cut (max o.1 m.1, o.2 ||| m.2) l)) (fun i => (ats (max o.1 m.1, o.2 ||| m.2) 0 l).idxOf ((ats o 0 l).getD i 0)) := by
  obtain ⟨jo, hjo⟩ : ∃ jo, jo = (max o.1 m.1, o.2 ||| m.2) := ⟨_, rfl⟩
  have hmore : ∀ a ∈ ats o 0 l, a ∈ ats jo 0 l := by rw [hjo]; exact ats_more o m l 0
  rw [← hjo]
  clear hjo
  have hd : ∀ i, i < (ats o 0 l).length → ∀ hi : i < (ats o 0 l).length, (ats o 0 l).getD i 0 = (ats o 0 l)[i] := fun i hi _ => by rw [List.getD_eq_getElem?_getD, List.getElem?_eq_getElem hi]; rfl
  have hp : ∀ i, i < (ats o 0 l).length → (ats jo 0 l).idxOf ((ats o 0 l).getD i 0) < (ats jo 0 l).length := fun i hi => List.idxOf_lt_length_iff.2 (hmore _ (by rw [hd i hi hi]; exact List.getElem_mem hi))
  have hg : ∀ i (hi : i < (ats o 0 l).length), (ats jo 0 l)[(ats jo 0 l).idxOf ((ats o 0 l).getD i 0)]'(hp i hi) = (ats o 0 l)[i] := fun i hi => by rw [List.getElem_idxOf, hd i hi hi]
  have hts : (atI o l).length = (ats o 0 l).length := by simp [atI]
  have hus : (atI jo l).length = (ats jo 0 l).length := by simp [atI]
  refine ⟨fun i hi => by rw [hus]; exact hp i (by omega), fun i hi hq => ?_, fun i hi q hq hqp => ?_, fun i hi => ?_, fun i h1 h2 => ?_, by rw [lns_length, atI_length], by rw [lns_length, atI_length]⟩
  · have := hg i (by omega)
    simp only [atI, List.getElem_map, this]
  · have h1 := hp i (by omega)
    have h2 := ats_lt jo (l := l) (k := 0) (i := q) h1 hqp
    rw [hg i (by omega)] at h2
    simp only [atI, List.getElem_map]
    omega
  · have h1 := hp i (by omega)
    have h2 := hp (i + 1) (by omega)
    have h3 := ats_lt o (l := l) (k := 0) (i := i) (j := i + 1) (by omega) (by omega)
    rw [← hg i (by omega), ← hg (i + 1) (by omega)] at h3
    refine Nat.le_of_not_lt fun hlt => ?_
    have h4 := ats_lt jo (l := l) (k := 0) h1 hlt
    omega
  · have hi : i < (ats o 0 l).length := by rw [lns_length, ← ats_length o l 0] at h1; exact h1
    have hc1 : i < (cut o l).length := by rw [← ats_length o l 0]; exact hi
    have hq := hp i hi
    have hc2 : (ats jo 0 l).idxOf ((ats o 0 l).getD i 0) < (cut jo l).length := by rw [← ats_length jo l 0]; exact hq
    rw [lns_at h h1 hc1, lns_at h h2 hc2]
    obtain ⟨_, -, -, h3⟩ := ats_get o l 0 i hi
    obtain ⟨_, -, -, h4⟩ := ats_get jo l 0 _ hq
    rw [List.getElem?_eq_getElem hc1] at h3
    rw [List.getElem?_eq_getElem hc2] at h4
    rw [Option.some.inj h3, Option.some.inj h4]
    simp only [hg i hi, Nat.sub_zero]
end Go.Proofs.Ytllgeffjkjdadaa.V

namespace Go.Proofs.Ytllgeffjkjdadaa.V
set_option linter.unusedVariables false
set_option linter.unusedSimpArgs false
open Go.RowKit
open T
open I (It Lb ItemsOk ItemsIn)

/-- Where it is put in, to stand ahead of line k. -/
def putAt (o : Lb) (l : List It) (k : Nat) : Nat := if k = 0 then 0 else (ats o 0 l).getD (k - 1) 0 + 1
theorem cut_app (o : Lb) (a b : List It) : cut o (a ++ b) = cut o a ++ cut o b := by simp [cut]
theorem putAt_le {o : Lb} {l : List It} {k : Nat} (hk : k ≤ (ats o 0 l).length) : putAt o l k ≤ l.length := by
  unfold putAt
  split
  · omega
  · rename_i h
    have hk1 : k - 1 < (ats o 0 l).length := by omega
    obtain ⟨hi, -, -, -⟩ := ats_get o l 0 (k - 1) hk1
    rw [List.getD_eq_getElem?_getD, List.getElem?_eq_getElem hk1]
    simp only [Option.getD_some]
    omega
theorem cut_put {o : Lb} {l : List It} {k : Nat} (hk : k ≤ (ats o 0 l).length) : cut o (l.take (putAt o l k)) = (cut o l).take k := by
  unfold putAt
  split
  · rename_i h; subst h; simp [cut]
  · rename_i h
    have hk1 : k - 1 < (ats o 0 l).length := by omega
    have := cut_ahead o l 0 (k - 1) hk1
    rw [List.getD_eq_getElem?_getD, List.getElem?_eq_getElem hk1]
    simp only [Option.getD_some]
    rw [Nat.sub_zero, show k - 1 + 1 = k by omega] at this
    exact this
theorem cut_rest {o : Lb} {l : List It} {k : Nat} (hk : k ≤ (ats o 0 l).length) : cut o (l.drop (putAt o l k)) = (cut o l).drop k := by
  have h1 := cut_app o (l.take (putAt o l k)) (l.drop (putAt o l k))
  rw [List.take_append_drop, cut_put hk] at h1
  have h2 := (List.take_append_drop k (cut o l)).symm
  rw [h2] at h1
  have := List.append_cancel_left ((List.take_append_drop k (cut o l)).symm ▸ h1 : (cut o l).take k ++ (cut o l).drop k = (cut o l).take k ++ cut o (l.drop (putAt o l k)))
  exact this.symm
theorem lns_fst (h : List UInt8) (l : List It) (j : Nat) (hj : j < (lns h l).length) : (lns h l)[j].1 = txt h (l[j]'(by rw [lns_length] at hj; exact hj)) := by
  have := lns_text h l
  have h1 : ((lns h l).map (·.1))[j]? = (l.map (txt h))[j]? := by rw [this]
  rw [List.getElem?_map, List.getElem?_map, List.getElem?_eq_getElem hj, List.getElem?_eq_getElem (by rw [lns_length] at hj; exact hj)] at h1
  simpa using h1
def newIt (o : Lb) (tx : List UInt8) : It := ⟨0, o.1, o.2, false, tx, false⟩
def putIn (o : Lb) (l : List It) (tx : List UInt8) (k : Nat) : List It := l.take (putAt o l k) ++ [newIt o tx] ++ l.drop (putAt o l k)
theorem cut_putIn {o : Lb} {l : List It} {tx : List UInt8} {k : Nat} (hk : k ≤ (ats o 0 l).length) : cut o (putIn o l tx k) = (cut o l).take k ++ [newIt o tx] ++ (cut o l).drop k := by
  unfold putIn
  rw [cut_app, cut_app, cut_put hk, cut_rest hk]
  congr 2
  have : sees o (newIt o tx) = true := L.below_refl _ _
  simp [cut, this]
theorem cut_putIn_len {o jo : Lb} {l : List It} {tx : List UInt8} {k : Nat} (hj : sees jo (newIt o tx) = true) : (cut jo (putIn o l tx k)).length = (cut jo l).length + 1 := by
  unfold putIn
  rw [cut_app, cut_app, List.length_append, List.length_append]
  have h1 : (cut jo [newIt o tx]).length = 1 := by simp [cut, hj]
  have h2 := congrArg (fun x => (cut jo x).length) (List.take_append_drop (putAt o l k) l)
  simp only [cut_app, List.length_append] at h2
  omega
theorem putting_is (h : List UInt8) (o jo : Lb) (l : List It) (tx : List UInt8) (k : Nat) (hk : k ≤ (ats o 0 l).length) (hj : sees jo (newIt o tx) = true) :
    Putting l (putIn o l tx k) o.1 o.2 tx (lns h (cut o l)) (lns h (cut o (putIn o l tx k))) (lns h (cut jo l)) (lns h (cut jo (putIn o l tx k))) k (putAt o l k) := by
  have hkc : k ≤ (cut o l).length := by rw [← ats_length o l 0]; exact hk
  have hc := cut_putIn (tx := tx) hk
  have hlen : (cut o (putIn o l tx k)).length = (cut o l).length + 1 := by
    rw [hc, List.length_append, List.length_append, List.length_take, List.length_drop]; simp; omega
  have hkt : ((cut o l).take k).length = k := by rw [List.length_take]; omega
  refine ⟨rfl, putAt_le hk, by rw [lns_length]; exact hkc, by rw [lns_length, lns_length, hlen], fun hkm => ?_, fun j h1 h2 hjk => ?_, fun j h1 h2 hkj => ?_, by rw [lns_length, lns_length, cut_putIn_len hj]⟩
  · rw [lns_fst]
    have : (cut o (putIn o l tx k))[k]'(by rw [lns_length] at hkm; exact hkm) = newIt o tx := by
      simp only [hc]
      rw [List.getElem_append_left (by rw [List.length_append, hkt]; simp), List.getElem_append_right (by rw [hkt]; exact Nat.le_refl _)]
      simp [hkt]
    rw [this]; rfl
  · rw [lns_fst, lns_fst]
    congr 1
    simp only [hc]
    rw [List.getElem_append_left (by rw [List.length_append, hkt]; omega), List.getElem_append_left (by rw [hkt]; exact hjk), List.getElem_take]
  · rw [lns_fst, lns_fst]
    congr 1
    simp only [hc]
    rw [List.getElem_append_right (by rw [List.length_append, hkt]; simp; omega), List.getElem_drop]
    congr 1
    rw [List.length_append, hkt]; simp; omega
theorem aft_put {o : Lb} {l : List It} {k : Nat} (hk : k ≤ (ats o 0 l).length) (hl : l.length ≤ 4194304) : aftK (atI o l) (k : Int) = (putAt o l k : Nat) ∧ aftE (atI o l) (k : Int) = 0 := by
  have hle := putAt_le hk
  have hal : (atI o l).length = (ats o 0 l).length := by simp [atI]
  have hno : aftNo (atI o l) (k : Int) = false := by
    unfold aftNo
    rw [decide_eq_false (by omega), decide_eq_false (by rw [hal]; omega), Bool.false_or, Bool.false_or]
    by_cases h0 : k = 0
    · subst h0; rfl
    · have hk1 : k - 1 < (ats o 0 l).length := by omega
      have hg : (atI o l).getD ((k : Int) - 1).toNat 0 = (((ats o 0 l)[k - 1] : Nat) : Int) := by
        rw [show ((k : Int) - 1).toNat = k - 1 by omega, List.getD_eq_getElem?_getD, List.getElem?_eq_getElem (by rw [hal]; exact hk1)]
        simp [atI]
      rw [hg]
      obtain ⟨hi, -, -, -⟩ := ats_get o l 0 (k - 1) hk1
      rw [decide_eq_false (show ¬ ((((ats o 0 l)[k - 1] : Nat) : Int) < 0) by omega), decide_eq_false (show ¬ ((1073741824 : Int) ≤ (((ats o 0 l)[k - 1] : Nat) : Int)) by omega), Bool.or_false, Bool.and_false]
  unfold aftK aftE
  rw [hno]
  refine ⟨?_, rfl⟩
  rw [if_neg (by decide)]
  unfold putAt
  by_cases h0 : k = 0
  · subst h0; rfl
  · rw [if_pos (by omega), if_neg h0, show ((k : Int) - 1).toNat = k - 1 by omega]
    have hk1 : k - 1 < (ats o 0 l).length := by omega
    rw [List.getD_eq_getElem?_getD, List.getD_eq_getElem?_getD, List.getElem?_eq_getElem (by rw [hal]; exact hk1), List.getElem?_eq_getElem hk1]
    simp [atI]
theorem putIn_ok {o : Lb} {l : List It} {tx : List UInt8} {k : Nat} (h : ItemsOk l) (hl : l.length ≤ 4194304) (htx : tx.length ≤ maxLen) (ho : o.2 < 18446744073709551616) : ItemsOk (putIn o l tx k) := by
  have hm : ∀ x ∈ putIn o l tx k, x ∈ l ∨ x = newIt o tx := fun x hx => by
    unfold putIn at hx
    rcases List.mem_append.1 hx with hx | hx
    · rcases List.mem_append.1 hx with hx | hx
      · exact .inl (List.mem_of_mem_take hx)
      · exact .inr (List.mem_singleton.1 hx)
    · exact .inl (List.mem_of_mem_drop hx)
  refine ⟨?_, fun x hx => ?_, fun x hx => ?_⟩
  · unfold putIn maxLen
    rw [List.length_append, List.length_append, List.length_take, List.length_drop, List.length_singleton]
    omega
  · rcases hm x hx with h1 | rfl
    · exact h.tx x h1
    · exact htx
  · rcases hm x hx with h1 | rfl
    · exact h.ct x h1
    · exact ho
theorem putIn_length (o : Lb) (l : List It) (tx : List UInt8) (k : Nat) : (putIn o l tx k).length ≤ l.length + 1 := by
  unfold putIn
  rw [List.length_append, List.length_append, List.length_take, List.length_drop, List.length_singleton]
  omega
theorem vputs_all {A : Option Addr} {cap iv : Nat} {l : List It} {o g : Lb} {tx : List UInt8} {w : World} (ok : ItemsOk l) (ho : o.2 < 18446744073709551616) (hg : g.2 < 18446744073709551616) (hl : l.length ≤ 4194304) (htx : tx.length ≤ maxLen) (hcap : l.length ≤ cap) (hcn : A = none → cap = 0) (hiv : iv < 256) (hA : ItemsIn w A l) :
    Calls Try.prog 3 #[.slice A l.length cap, .agg #[.int .i64 o.1, .int .u64 (o.2 : Int)], .int .u8 (iv : Int), .string ⟨tx.toArray⟩, .agg #[.int .i64 g.1, .int .u64 (g.2 : Int)]] w fun e w' => e = .returned (.bool true) ∧ Below w.heap.size w w' := by
  have hjo : (o.2 ||| g.2) < 18446744073709551616 := Nat.or_lt_two_pow (n := 64) ho hg
  have hal : (atI o l).length = (ats o 0 l).length := by simp [atI]
  have hac : (atI o l).length = (cut o l).length := atI_length o l
  have hcl := cut_le o l
  obtain ⟨k, hk⟩ : ∃ k, k = iv % ((atI o l).length + 1) := ⟨_, rfl⟩
  have hkl : k ≤ (ats o 0 l).length := by
    have := Nat.mod_lt iv (show 0 < (atI o l).length + 1 by omega)
    omega
  obtain ⟨h1, h2⟩ := aft_put hkl hl
  have hmo := putIn_ok (k := k) ok hl htx ho
  have hml := putIn_length o l tx k
  have haf := af_is (atI o l) (k : Int) (by unfold maxLen; omega) (by omega) (by omega)
  rw [h1, h2] at haf
  have hj : sees (max o.1 g.1, o.2 ||| g.2) (newIt o tx) = true := sees_join o g _ (L.below_refl _ _)
  exact vputs_law (j0 := max o.1 g.1) (j1 := o.2 ||| g.2) hcap hcn hl (by rw [lns_length]; exact Nat.le_trans (cut_le _ _) hl) (by rw [lns_length, hac]) (by omega) hiv (Lib.hid hA)
    (Lib.hid (vo_is A cap l o [46, 46, 46] ok ho (by omega))) hk.symm (Lib.hid haf) (Lib.hid fun A cap => vo_is A cap _ o [46, 46, 46] hmo ho (by omega)) (Lib.hid (putting_is [46, 46, 46] o (max o.1 g.1, o.2 ||| g.2) l tx k hkl hj))
    (Lib.hid fun W => L.refJoin_any o.1 g.1 o.2 g.2 W ho hg) (Lib.hid (vo_is A cap l (max o.1 g.1, o.2 ||| g.2) [46, 46, 46] ok hjo (by omega))) (Lib.hid fun A cap => vo_is A cap _ (max o.1 g.1, o.2 ||| g.2) [46, 46, 46] hmo hjo (by omega)) (Lib.hid live5)
end Go.Proofs.Ytllgeffjkjdadaa.V
