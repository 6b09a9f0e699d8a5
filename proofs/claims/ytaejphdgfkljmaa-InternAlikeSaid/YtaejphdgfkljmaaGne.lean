/-
  Lines and their numbers, in plain words: alike just if the numbers are.
  The law InternAlike.
-/
import Derived.Test.YtaejphdgfkljmaaGnd
import Derived.BigQuiet
namespace Go.Proofs.Ytaejphdgfkljmaa.N
set_option linter.unusedVariables false
set_option linter.unusedSimpArgs false
open Go.RowKit
open T
open V (grown_of IntsIn numCells numCells_snoc ints_own drawn_below)
open I (alloc1 own_at own_below)

/-- Lines and their numbers: each number is the place of its line among those that are known. -/
structure Al (ks xs : List Ln) (ys : List Int) : Prop where
  len : ys.length = xs.length
  at_ : ∀ j (h : j < xs.length) (h' : j < ys.length), ys[j] = ((ks.idxOf xs[j] : Nat) : Int)
  mem : ∀ x ∈ xs, x ∈ ks
theorem Al.nil (ks : List Ln) : Al ks [] [] := ⟨rfl, fun j h => by simp at h, fun x hx => by simp at hx⟩
theorem mem_add (ks : List Ln) (x : Ln) : x ∈ add ks x := by unfold add; split <;> simp_all
theorem mem_add' {ks : List Ln} (x : Ln) {y : Ln} (h : y ∈ ks) : y ∈ add ks x := by unfold add; split <;> simp_all
theorem idx_add {ks : List Ln} (x : Ln) {y : Ln} (h : y ∈ ks) : (add ks x).idxOf y = ks.idxOf y := by
  unfold add
  split
  · rfl
  · rw [List.idxOf_append, if_pos h]
theorem Al.step {ks xs : List Ln} {ys : List Int} (h : Al ks xs ys) (x : Ln) : Al (add ks x) (xs ++ [x]) (ys ++ [(((add ks x).idxOf x : Nat) : Int)]) := by
  refine ⟨by simp [h.len], fun j hj hj' => ?_, fun y hy => ?_⟩
  · by_cases e : j < xs.length
    · have e' : j < ys.length := by rw [h.len]; exact e
      rw [List.getElem_append_left e', List.getElem_append_left e, h.at_ j e e', idx_add x (h.mem _ (List.getElem_mem e))]
    · obtain rfl : j = xs.length := by simp at hj; omega
      rw [List.getElem_append_right (by rw [h.len]; exact Nat.le_refl _), List.getElem_append_right (Nat.le_refl _)]
      simp [h.len]
  · rcases List.mem_append.1 hy with hy | hy
    · exact mem_add' x (h.mem y hy)
    · simp at hy; subst hy; exact mem_add ks y
theorem Al.alike {ks xs : List Ln} {ys : List Int} (h : Al ks xs ys) {i j : Nat} (hi : i < xs.length) (hj : j < xs.length) (hi' : i < ys.length) (hj' : j < ys.length) : ys[i] = ys[j] ↔ xs[i] = xs[j] := by
  rw [h.at_ i hi hi', h.at_ j hj hj']
  constructor
  · intro e
    have e' : ks.idxOf xs[i] = ks.idxOf xs[j] := by omega
    have mi := List.idxOf_lt_length_iff.2 (h.mem _ (List.getElem_mem hi))
    have mj := List.idxOf_lt_length_iff.2 (h.mem _ (List.getElem_mem hj))
    have ei := List.getElem_idxOf mi
    have ej := List.getElem_idxOf mj
    rw [← ei, ← ej]
    simp only [e']
  · intro e; rw [e]
theorem idx_le (ks : List Ln) (x : Ln) : (add ks x).idxOf x ≤ ks.length := by
  by_cases h : x ∈ ks
  · rw [idx_add x h]; exact List.idxOf_le_length
  · unfold add; rw [if_neg h, List.idxOf_append, if_neg h]; simp
theorem top_is (ks : List Ln) (x : Ln) : max ((ks.length : Nat) : Int) ((((add ks x).idxOf x : Nat) : Int) + 1) = (((add ks x).length : Nat) : Int) := by
  by_cases h : x ∈ ks
  · have h1 : ks.idxOf x < ks.length := List.idxOf_lt_length_iff.2 h
    rw [idx_add x h, show add ks x = ks by unfold add; rw [if_pos h]]
    omega
  · have h1 : (add ks x).idxOf x = ks.length := by unfold add; rw [if_neg h, List.idxOf_append, if_neg h]; simp
    rw [h1, show add ks x = ks ++ [x] by unfold add; rw [if_neg h]]
    rw [List.length_append, List.length_singleton]; omega
theorem nums_at : ∀ (ls : List (List Ln)) (ks : List Ln) (i : Nat) (h : i < ls.length) (h' : i < (numsAll ks ls).length), (numsAll ks ls)[i] = row (knownAll ks (ls.take i)) ls[i]
  | [], _, i, h, _ => by simp at h
  | l :: r, ks, 0, _, _ => by simp [numsAll, knownAll]
  | l :: r, ks, i + 1, h, h' => by
    have := nums_at r (known ks l) i (by simpa using h) (by simpa [numsAll] using h')
    simpa [numsAll, knownAll] using this
theorem row_at : ∀ (l ks : List Ln) (k : Nat) (h : k < l.length) (h' : k < (row ks l).length), (row ks l)[k] = (((add (known ks (l.take k)) l[k]).idxOf l[k] : Nat) : Int)
  | [], _, k, h, _ => by simp at h
  | x :: r, ks, 0, _, _ => by simp [row, known]
  | x :: r, ks, k + 1, h, h' => by
    have := row_at r (add ks x) k (by simpa using h) (by simpa [row] using h')
    simpa [row, known] using this
/-- What the law holds in memory: lines, and their numbers. -/
structure Am (w : World) (lv nv : Value) (xs : List Ln) (ys : List Int) (W : World) : Prop where
  l : W.ownsRow w.heap.size 51 2 lv xs.length (lineCells xs)
  n : W.ownsRow w.heap.size 3 1 nv ys.length (numCells ys)
  b : Below w.heap.size w W
theorem Am.below {w : World} {lv nv : Value} {xs : List Ln} {ys : List Int} {W W' : World} (h : Am w lv nv xs ys W) (hb : Below W.heap.size W W') : Am w lv nv xs ys W' := ⟨own_below h.l hb, own_below h.n hb, h.b.trans (hb.mono h.b.size)⟩
theorem Am.addL {w : World} {lv nv lv' : Value} {xs xs' : List Ln} {ys : List Int} {W W' : World} (h : Am w lv nv xs ys W) (hg : W.grownBy W' lv.ownBlock) (hk : W'.ownsRow w.heap.size 51 2 lv' xs'.length (lineCells xs')) : Am w lv' nv xs' ys W' := ⟨hk, h.n.kept hg (V.own_apart (by decide) h.n h.l), h.b.grown hg h.b.size (own_base h.l)⟩
theorem Am.addN {w : World} {lv nv nv' : Value} {xs : List Ln} {ys ys' : List Int} {W W' : World} (h : Am w lv nv xs ys W) (hg : W.grownBy W' nv.ownBlock) (hk : W'.ownsRow w.heap.size 3 1 nv' ys'.length (numCells ys')) : Am w lv nv' xs ys' W' := ⟨h.l.kept hg (V.own_apart (by decide) h.l h.n), hk, h.b.grown hg h.b.size (own_base h.n)⟩
end Go.Proofs.Ytaejphdgfkljmaa.N

namespace Go.Proofs.Ytaejphdgfkljmaa.N
set_option linter.unusedVariables false
set_option linter.unusedSimpArgs false
open Go.RowKit
open T
open V (grown_of IntsIn numCells numCells_snoc ints_own drawn_below LvC LvC.at)
open I (alloc1 own_at own_below)

set_option maxRecDepth 100000 in
set_option maxHeartbeats 8000000 in
theorem nalike_law {A : Option Addr} {cap : Nat} {ls : List (List Ln)} {w : World} (hA : ListsIn w A ls) (hlm : ls.length ≤ maxLen) (hlr : ∀ l ∈ ls, l.length ≤ maxLen) (hln : ∀ l ∈ ls, ∀ y ∈ l, y.1.length ≤ maxLen) :
    Calls Try.prog 10 #[.slice A ls.length cap] w fun e w' => e = .returned (.bool true) ∧ Below w.heap.size w w' := by
  obtain ⟨l0, hl0, ly0, ly1, ly2⟩ := info_parts infoLine
  obtain ⟨n0, hn0, ny0, ny1, ny2⟩ := info_parts L.infoInt
  have HF := Lib.hid (few_any A cap ls w hA hlm hlr)
  have HN := Lib.hid (fun (W : World) (B : Option Addr) (c : Nat) (h : ListsIn W B (fewL ls)) => (numbers_any B c (fewL ls) W h (few_five ls) (few_sixty ls) (few_lines hln)).mono fun e w' h => h.rows)
  rw [numsAll_length] at HN
  have H60 := Lib.hid (few_sixty ls)
  have hfl := few_five ls
  have HL := Lib.hid live6
  clear hA hlm hlr hln
  obtain ⟨fl, hfe⟩ : ∃ fl, fl = fewL ls := ⟨_, rfl⟩
  rw [← hfe] at HF HN H60 hfl
  clear hfe
  have hne : ((fl.length : Int) != (fl.length : Int)) = false := by simp
  go_enter Try.func10, Try.ntmps10
  go_wp2_with fail
  with_reducible refine (HF.out).mono ?_
  rintro e w1 ⟨B, cB, rfl, hl1, hb1⟩
  have HN1 := Lib.hid (HN.out w1 B cB hl1)
  have HL1 := Lib.hid hl1
  have HB1 := Lib.hid hb1
  clear hl1 hb1 HF
  go_wp2_with fail
  with_reducible refine (HN1.out).mono ?_
  rintro e w2 ⟨NA, nc, rfl, hr2, hb2⟩
  have HL2 := Lib.hid (HL1.out.below hb2)
  have HX2 := Lib.hid hr2
  have HB2 := Lib.hid (HB1.out.trans (hb2.mono HB1.out.size))
  clear hr2 hb2 HN HN1 HB1 HL1
  go_wp2_with fail
  go_loopg [5, 6, 7, 8] fl.length (fun q lv nv tv i wx => ∃ (a : Nat) (xs : List Ln) (ys : List Int), a ≤ fl.length ∧ i = .int .i64 a ∧ fl.length - a ≤ q ∧ tv = .int .i64 (((knownAll [] (fl.take a)).length : Nat) : Int) ∧ Am w2 lv nv xs ys wx ∧ xs.length ≤ 60 * a ∧ Hid (Al (knownAll [] (fl.take a)) xs ys))
  case atStart => exact ⟨0, [], [], Nat.zero_le _, rfl, by omega, by simp [knownAll], ⟨World.ownsRow_nil _ _ _ _, World.ownsRow_nil _ _ _ _, Below.refl _ _⟩, Nat.zero_le _, Lib.hid (Al.nil _)⟩
  case round =>
    obtain ⟨a, xs, ys, ha, rfl, hm, rfl, ham, hxl, HAL⟩ := hrel
    by_cases hlt : a < fl.length
    · obtain ⟨b1, hNA, hb1, hI1⟩ := HX2.out (by rw [numsAll_length]; omega)
      subst hNA
      obtain ⟨b2, o2, hB, hb2, hI2⟩ := HL2.out (by omega)
      subst hB
      obtain ⟨P1, p1, c1, i1⟩ := hI1 a (by rw [numsAll_length]; exact hlt)
      obtain ⟨P2, p2, c2, i2, -⟩ := hI2 a hlt
      rw [nums_at fl [] a hlt (by rw [numsAll_length]; exact hlt)] at c1 i1
      rw [row_length] at c1
      have HKA := Lib.hid (knownAll_take (ks := []) hlt)
      have hll := H60.out _ (List.getElem_mem hlt)
      have hkl := knownAll_length (fl.take a) [] (fun y hy => H60.out y (List.mem_of_mem_take hy))
      have hkb : (knownAll [] (fl.take a)).length ≤ 300 := by rw [List.length_take] at hkl; simp at hkl; omega
      obtain ⟨l, hl⟩ : ∃ l, l = fl[a] := ⟨_, rfl⟩
      obtain ⟨kk, hkk⟩ : ∃ kk, kk = knownAll [] (fl.take a) := ⟨_, rfl⟩
      rw [← hl] at c1 i1 c2 i2 HKA hll
      rw [← hkk] at i1 HKA hkb HAL ⊢
      clear hl hkk hI1 hI2 hkl
      have h0a : (0 : Int) ≤ (a : Int) := by omega
      have hai : (a : Int) < (fl.length : Int) := by omega
      have hne2 : ((l.length : Int) != (l.length : Int)) = false := by simp
      have C1 := Lib.hid c1
      have C2 := Lib.hid c2
      have I1 := Lib.hid i1
      have I2 := Lib.hid i2
      have d1 := (ham.b.cell (p := ⟨b1, a, none⟩) hb1).trans c1
      have d2 := (ham.b.cell (p := ⟨b2, o2 + a, none⟩) hb2).trans c2
      have HAM := Lib.hid ham
      clear c1 c2 i1 i2 ham
      go_wp2_with fail
      go_quiet (fail)
      clear d1 d2
      go_wp2_with fail
      go_loopg [5, 6, 7, 9] l.length (fun q lv nv tv i wx => ∃ (b : Nat) (xs' : List Ln) (ys' : List Int), b ≤ l.length ∧ i = .int .i64 b ∧ l.length - b ≤ q ∧ tv = .int .i64 (((known kk (l.take b)).length : Nat) : Int) ∧ Am w2 lv nv xs' ys' wx ∧ xs'.length ≤ 60 * a + b ∧ Hid (Al (known kk (l.take b)) xs' ys'))
      case atStart => exact ⟨0, xs, ys, Nat.zero_le _, rfl, by omega, rfl, HAM.out.below (drawn_below wr _), by omega, by simpa [known] using HAL⟩
      case round =>
        clear HAM HAL hxl
        obtain ⟨b, xs', ys', hb, rfl, hbm, rfl, ham, hxl, HAL⟩ := hrel
        have d1 := (ham.b.cell (p := ⟨b1, a, none⟩) hb1).trans C1.out
        have d2 := (ham.b.cell (p := ⟨b2, o2 + a, none⟩) hb2).trans C2.out
        by_cases hbl : b < l.length
        · obtain ⟨g1, f1, hP1, hg1, hR1⟩ := I1.out (by rw [row_length]; omega)
          subst hP1
          obtain ⟨g2, f2, hP2, hg2, hR2⟩ := I2.out (by omega)
          subst hP2
          have m0 := hR1 b (by rw [row_length]; exact hbl)
          rw [row_at l kk b hbl (by rw [row_length]; exact hbl)] at m0
          obtain ⟨t0, t1⟩ := hR2 b hbl
          have m1 := (ham.b.cell (p := ⟨g1, f1 + b, none⟩) hg1).trans m0
          have m2 := (ham.b.cell (p := ⟨g2, f2 + b * 2, none⟩) hg2).trans t0
          have m3 := (ham.b.cell (p := ⟨g2, f2 + b * 2 + 1, none⟩) hg2).trans t1
          have HKT := Lib.hid (known_take (ks := kk) hbl)
          have HST := Lib.hid (HAL.out.step l[b])
          have hle := idx_le (known kk (l.take b)) l[b]
          have htop := top_is (known kk (l.take b)) l[b]
          have hkx := known_length (l.take b) kk
          rw [List.length_take] at hkx
          have M0 := Lib.hid m0
          obtain ⟨x, hx⟩ : ∃ x, x = l[b] := ⟨_, rfl⟩
          obtain ⟨kx, hkx2⟩ : ∃ kx, kx = known kk (l.take b) := ⟨_, rfl⟩
          rw [← hx] at m1 m2 m3 HKT HST hle htop M0
          rw [← hkx2] at m1 HKT HST hle htop hkx M0 ⊢
          clear hx hkx2 hR1 hR2 t0 t1 m0 HAL
          obtain ⟨n, hn⟩ : ∃ n : Nat, n = (add kx x).idxOf x := ⟨_, rfl⟩
          rw [← hn] at m1 HST hle htop M0
          obtain ⟨tt, htt⟩ : ∃ n : Nat, n = (add kx x).length := ⟨_, rfl⟩
          rw [← htt] at htop
          obtain ⟨t, ht⟩ : ∃ n : Nat, n = kx.length := ⟨_, rfl⟩
          rw [← ht] at hle htop hkx ⊢
          have HTT := Lib.hid htt
          clear hn htt ht
          have h0b : (0 : Int) ≤ (b : Int) := by omega
          have hbi : (b : Int) < (l.length : Int) := by omega
          have hg : ¬ ((t : Int) < (n : Int)) := by omega
          have hz : ¬ ((n : Int) < 0) := by omega
          have hw : IntKind.i64.wrap ((n : Int) + 1) = (n : Int) + 1 := by rw [IntKind.wrap_i64]; omega
          obtain ⟨x1, x2⟩ := x
          simp only at m2 m3
          have hlc : lineCells (xs' ++ [(x1, x2)]) = lineCells xs' ++ [.string ⟨x1.toArray⟩, .bool x2] := lineCells_snoc xs' x1 x2
          obtain ⟨s, hs⟩ : ∃ s : ByteArray, s = ⟨x1.toArray⟩ := ⟨_, rfl⟩
          rw [← hs] at m2 hlc
          have HLC := Lib.hid hlc
          clear hs hlc
          have hyl : ys'.length = xs'.length := by
            have := HST.out.len
            simp at this; exact this
          have hxb : xs'.length ≤ 400 := by omega
          have hyb : ys'.length ≤ 400 := by omega
          have HXL := Lib.hid hxl
          clear hyl hxl
          obtain ⟨LA, lcap, rfl, -, -⟩ := own_form ham.l
          obtain ⟨MA, mcap, rfl, -, -⟩ := own_form ham.n
          have HAM := Lib.hid ham
          have hsr := ham.b.size
          clear ham
          go_wp2_with (first
            | (at_builtin; refine wpList_append_own _ rfl _ _ 26 rfl w2.heap.size 51 l0 _ 2 24 Try.underlying26 hl0 ly0 ly1 ly2 rfl (by decide) _ xs'.length (lineCells xs') rfl (HAM.out.l.alloc _) ⟨_, 0, none⟩ 1 1 [.string s, .bool x2] rfl rfl (World.news_of_block (alloc_at _ (by first | rfl | simp))) (by intro u hu; simp at hu; rcases hu with rfl | rfl <;> rfl) (by simp only [maxLen]; omega) (by omega) (by first | omega | (simp; omega)) ?_; intro v' w4 hown4 hg4 _; have HA4 := Lib.hid ((HAM.out.below (alloc1 _ _)).addL (xs' := xs' ++ [(x1, x2)]) hg4 (by rw [HLC.out]; simpa using hown4)); clear hown4 hg4; have hsr4 := HA4.out.b.size; have q1 := (HA4.out.b.cell (p := ⟨b1, a, none⟩) hb1).trans C1.out; have q2 := (HA4.out.b.cell (p := ⟨g1, f1 + b, none⟩) hg1).trans M0.out)
            | (at_builtin; refine wpList_append_own _ rfl _ _ 27 rfl w2.heap.size 3 n0 _ 1 8 Try.underlying27 hn0 ny0 ny1 ny2 rfl (by decide) _ ys'.length (numCells ys') rfl (HA4.out.n.alloc _) ⟨_, 0, none⟩ 1 1 [.int .i64 n] rfl rfl (World.news_of_block (alloc_at _ (by first | rfl | simp))) (by intro u hu; simp at hu; rcases hu with rfl; rfl) (by simp only [maxLen]; omega) (by omega) (by first | omega | (simp; omega)) ?_; intro v5 w5 hown5 hg5 _))
          have ham5 : Am w2 v' v5 (xs' ++ [(x1, x2)]) (ys' ++ [(n : Int)]) w5 := (HA4.out.below (alloc1 _ _)).addN hg5 (by rw [numCells_snoc]; simpa using hown5)
          clear hown5 hg5
          go_wp2_with fail
          go_roundg (l.length - (b + 1))
          case rel => exact ⟨b + 1, xs' ++ [(x1, x2)], ys' ++ [(n : Int)], by omega, by go_num, Nat.le_refl _, by rw [HKT.out, ← HTT.out], ham5, by have := HXL.out; simp; omega, by rw [HKT.out]; exact HST⟩
          case measure => omega
        · obtain rfl : b = l.length := by omega
          rw [List.take_length] at HAL
          rw [List.take_length]
          go_wp2_with fail
          go_roundg (fl.length - (a + 1))
          case rel => exact ⟨a + 1, xs', ys', by omega, by go_num, Nat.le_refl _, by rw [HKA.out], ham, by omega, by rw [HKA.out]; exact HAL⟩
          case measure => omega
    · obtain rfl : a = fl.length := by omega
      have HAK := Lib.hid HAL.out
      have hyx := HAL.out.len
      obtain ⟨LA, lcap, rfl, -, -⟩ := own_form ham.l
      obtain ⟨MA, mcap, rfl, -, -⟩ := own_form ham.n
      have HIL := Lib.hid (V.lines_own ham.l)
      have HIN := Lib.hid (ints_own ham.n)
      have HB3 := Lib.hid (HB2.out.trans (ham.b.mono HB2.out.size))
      have hxb : xs.length ≤ 300 := by omega
      obtain ⟨w3, hw3⟩ : ∃ w3, w3 = wr := ⟨_, rfl⟩
      rw [← hw3] at HIL HIN HB3 ⊢
      clear hw3 ham HAL
      go_wp2_with fail
      go_loopg [10] xs.length (fun q i wx => ∃ a : Nat, a ≤ xs.length ∧ i = .int .i64 a ∧ xs.length - a ≤ q ∧ (∃ d, wx = w3.drewN d))
      case atStart => exact ⟨0, Nat.zero_le _, rfl, by omega, ⟨0, rfl⟩⟩
      case round =>
        obtain ⟨a, ha, rfl, hm, ⟨d, rfl⟩⟩ := hrel
        by_cases hlt : a < xs.length
        · have h0a : (0 : Int) ≤ (a : Int) := by omega
          have hai : (a : Int) < (xs.length : Int) := by omega
          go_wp2_with fail
          go_loopg [11] a (fun q i wx => ∃ b : Nat, b ≤ a ∧ i = .int .i64 b ∧ a - b ≤ q ∧ (∃ d, wx = w3.drewN d))
          case atStart => exact ⟨0, Nat.zero_le _, rfl, by omega, ⟨_, rfl⟩⟩
          case round =>
            obtain ⟨b, hb, rfl, hbm, ⟨d', rfl⟩⟩ := hrel
            by_cases hba : b < a
            · have hbx : b < xs.length := by omega
              obtain ⟨g1, f1, hP1, hg1, hR1⟩ := HIL.out (by omega)
              subst hP1
              obtain ⟨g2, f2, hP2, hg2, hR2⟩ := HIN.out (by omega)
              subst hP2
              obtain ⟨c0, c1⟩ := hR1 a hlt
              obtain ⟨d0, d1⟩ := hR1 b hbx
              have hya : a < ys.length := by omega
              have hyb : b < ys.length := by omega
              have e0 := hR2 a hya
              have e1 := hR2 b hyb
              have HIFF := Lib.hid (HAK.out.alike hlt hbx hya hyb)
              have h0b : (0 : Int) ≤ (b : Int) := by omega
              have hbi : (b : Int) < (xs.length : Int) := by omega
              have hay : (a : Int) < (ys.length : Int) := by omega
              have hby : (b : Int) < (ys.length : Int) := by omega
              have hbai : (b : Int) < (a : Int) := by omega
              obtain ⟨x, hx⟩ : ∃ x, x = xs[a] := ⟨_, rfl⟩
              obtain ⟨y, hy⟩ : ∃ y, y = xs[b] := ⟨_, rfl⟩
              obtain ⟨m, hmm⟩ : ∃ m, m = ys[a] := ⟨_, rfl⟩
              obtain ⟨n, hnn⟩ : ∃ n, n = ys[b] := ⟨_, rfl⟩
              rw [← hx] at c0 c1 HIFF
              rw [← hy] at d0 d1 HIFF
              rw [← hmm] at e0 HIFF
              rw [← hnn] at e1 HIFF
              have HYX := Lib.hid hyx
              clear hx hy hmm hnn hR1 hR2 hyx
              by_cases he : x = y
              · have hmn : m = n := HIFF.out.2 he
                subst he hmn
                clear HIFF
                obtain ⟨x1, x2⟩ := x
                simp only at c0 c1 d0 d1
                obtain ⟨s, hs⟩ : ∃ s : ByteArray, s = ⟨x1.toArray⟩ := ⟨_, rfl⟩
                rw [← hs] at c0 d0
                clear hs
                go_wp2_with fail
                go_quiet (fail)
                go_wp2_with fail
                go_roundg (a - (b + 1))
                case rel => exact ⟨b + 1, by omega, by go_num, Nat.le_refl _, ⟨_, rfl⟩⟩
                case measure => omega
              · have hmn : (m == n) = false := beq_eq_false_iff_ne.2 (fun h => he (HIFF.out.1 h))
                clear HIFF
                obtain ⟨x1, x2⟩ := x
                obtain ⟨y1, y2⟩ := y
                simp only at c0 c1 d0 d1
                have HE := Lib.hid (ln_ne he)
                clear he
                simp only at HE
                obtain ⟨s, hs⟩ : ∃ s : ByteArray, s = ⟨x1.toArray⟩ := ⟨_, rfl⟩
                obtain ⟨t, ht⟩ : ∃ t : ByteArray, t = ⟨y1.toArray⟩ := ⟨_, rfl⟩
                rw [← hs] at c0 HE
                rw [← ht] at d0 HE
                clear hs ht
                rcases HE.out with h | ⟨rfl, h⟩
                all_goals
                  have hn1 := beq_eq_false_iff_ne.2 h
                  have hn2 := bne_iff_ne.2 h
                  clear HE
                  go_wp2_with fail
                  go_quiet (fail)
                  go_wp2_with fail
                  go_roundg (a - (b + 1))
                  case rel => exact ⟨b + 1, by omega, by go_num, Nat.le_refl _, ⟨_, rfl⟩⟩
                  case measure => omega
            · obtain rfl : b = a := by omega
              go_wp2_with fail
              go_roundg (xs.length - (b + 1))
              case rel => exact ⟨b + 1, by omega, by go_num, Nat.le_refl _, ⟨_, rfl⟩⟩
              case measure => omega
        · obtain rfl : a = xs.length := by omega
          have HB5 := Lib.hid (HB3.out.trans ((drawn_below w3 d).mono HB3.out.size))
          go_wp2_with fail
          with_reducible refine (HL.out.at _).mono ?_
          rintro e w5 ⟨rfl, hb5⟩
          have HB6 := Lib.hid (HB5.out.trans (hb5.mono HB5.out.size))
          clear hb5
          go_wp2_with fail
          go_ret
          exact ⟨rfl, HB6.out⟩
end Go.Proofs.Ytaejphdgfkljmaa.N
