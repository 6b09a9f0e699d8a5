/-
  The contract of the reference's Numbers.
  The contract of the reference's Ends.
  What must be whatever is asked (layer 5), walked over what the code's functions come to.
  What must be whatever is asked of layer 6.
  The law InternNumbers.
  Lines and their numbers, in plain words: alike just if the numbers are.
  The shortest way from one row of numbers to another one: plain. How many numbers must be taken out and put in; what a row of the furthest places is, and the next one; the way that the document names.
  The contracts of myers' Long, spot, slide and back.
-/
import Derived.Test.YtkflhcfopejigaaGgn
import Derived.Deep.DeepCutAuto
import Derived.Deep.CutRange
import Derived.Test.YtkflhcfopejigaaGgb
import Derived.Test.YtkflhcfopejigaaGgc
import Derived.StillTailTactics
import Derived.Test.YtkflhcfopejigaaGga
namespace Go.Proofs.Ytkflhcfopejigaa.N
set_option linter.unusedVariables false
set_option linter.unusedSimpArgs false
open Go.RowKit
open T
open V (grown_of IntsIn numCells numCells_snoc ints_own drawn_below lines_own)
open I (alloc1 own_at own_below)

theorem own_lt {w : World} {base : Nat} {e : TypeId} {size n : Nat} {v : Value} {xs : List Value} (h : w.ownsRow base e size v n xs) : ∀ g, v.ownBlock = some g → g < w.heap.size := fun g e' => by
  rcases h.2 with ⟨rfl, _⟩ | ⟨g', cap, cur, rfl, _, hg, _⟩
  · cases e'
  · simp only [Value.ownBlock, Option.some.injEq] at e'; subst e'; exact L.blk_lt hg
/-- The place of the first line that is like x, or how many there are. -/
def pos (ks : List Ln) (x : Ln) : Nat := ks.idxOf x
theorem pos_in {ks : List Ln} {x : Ln} (h : x ∈ ks) : (add ks x).idxOf x = pos ks x := by unfold add pos; rw [if_pos h]
theorem pos_not {ks : List Ln} {x : Ln} (h : x ∉ ks) : (add ks x).idxOf x = pos ks x := by
  unfold add pos
  rw [if_neg h, List.idxOf_append, if_neg h, List.idxOf_eq_length h]
  simp
theorem pos_le (ks : List Ln) (x : Ln) : pos ks x ≤ ks.length := List.idxOf_le_length
theorem pos_is {ks : List Ln} {x : Ln} {n : Nat} (h : ∀ j (hj : j < ks.length), j < n → ¬ ks[j] = x) (hn : n ≤ ks.length) (hs : ∀ hn : n < ks.length, ks[n] = x) : pos ks x = n := by
  unfold pos
  by_cases e : n < ks.length
  · have := hs e
    have h1 : ks.idxOf x ≤ n := by
      refine Nat.le_of_not_lt fun hlt => ?_
      have := List.not_of_lt_findIdx (p := (· == x)) (xs := ks) (i := n) hlt
      simp [this, hs e] at this
    have h2 : ¬ ks.idxOf x < n := fun hlt => by
      have hm : x ∈ ks := by rw [← this]; exact List.getElem_mem e
      have hi := List.idxOf_lt_length_iff.2 hm
      exact h _ hi hlt (List.getElem_idxOf hi)
    omega
  · obtain rfl : n = ks.length := by omega
    refine List.idxOf_eq_length fun hm => ?_
    obtain ⟨j, hj, e2⟩ := List.mem_iff_getElem.1 hm
    exact h j hj hj e2
theorem ln_ne {a b : Ln} (h : ¬ a = b) : (⟨a.1.toArray⟩ : ByteArray).toList ≠ (⟨b.1.toArray⟩ : ByteArray).toList ∨ ((⟨a.1.toArray⟩ : ByteArray) = ⟨b.1.toArray⟩ ∧ a.2 ≠ b.2) := by
  obtain ⟨a1, a2⟩ := a
  obtain ⟨b1, b2⟩ := b
  by_cases h1 : a1 = b1
  · exact .inr ⟨by rw [h1], fun e => h (by simp only at e; rw [h1, e])⟩
  · exact .inl fun e => h1 (by simpa [Lib.toList_data] using e)

/-- The rows of a round: the lines that are known, the numbers so far, the rows that are done. -/
structure Rn (w : World) (r0 : Nat) (kv rv ov : Value) (kx : List Ln) (ys : List Int) (vs : List Value) (rs : List (List Int)) (W : World) : Prop where
  k : W.ownsRow w.heap.size 51 2 kv kx.length (lineCells kx)
  r : W.ownsRow r0 3 1 rv ys.length (numCells ys)
  o : W.ownsRow w.heap.size 67 1 ov vs.length vs
  rw : Rws W w.heap.size vs rs
  b : Below w.heap.size w W
  s : r0 ≤ W.heap.size
  s0 : w.heap.size ≤ r0
  sep : ∀ j (h : j < vs.length) (_ : j < rs.length) g, vs[j].ownBlock = some g → g < r0
theorem Rn.below {w : World} {r0 : Nat} {kv rv ov : Value} {kx : List Ln} {ys : List Int} {vs : List Value} {rs : List (List Int)} {W W' : World} (h : Rn w r0 kv rv ov kx ys vs rs W) (hb : Below W.heap.size W W') : Rn w r0 kv rv ov kx ys vs rs W' :=
  ⟨own_below h.k hb, own_below h.r hb, own_below h.o hb, h.rw.below hb, h.b.trans (hb.mono h.b.size), Nat.le_trans h.s hb.size, h.s0, h.sep⟩
theorem Rn.addK {w : World} {r0 : Nat} {kv kv' rv ov : Value} {kx kx' : List Ln} {ys : List Int} {vs : List Value} {rs : List (List Int)} {W W' : World} (h : Rn w r0 kv rv ov kx ys vs rs W) (hg : W.grownBy W' kv.ownBlock) (hk : W'.ownsRow w.heap.size 51 2 kv' kx'.length (lineCells kx')) : Rn w r0 kv' rv ov kx' ys vs rs W' :=
  ⟨hk, h.r.kept hg (V.own_apart (by decide) h.r h.k), h.o.kept hg (V.own_apart (by decide) h.o h.k), h.rw.kept hg (fun j a b => V.own_apart (by decide) (h.rw.2 j a b) h.k), h.b.grown hg h.b.size (own_base h.k), Nat.le_trans h.s hg.size, h.s0, h.sep⟩
theorem Rn.addR {w : World} {r0 : Nat} {kv rv rv' ov : Value} {kx : List Ln} {ys ys' : List Int} {vs : List Value} {rs : List (List Int)} {W W' : World} (h : Rn w r0 kv rv ov kx ys vs rs W) (hg : W.grownBy W' rv.ownBlock) (hk : W'.ownsRow r0 3 1 rv' ys'.length (numCells ys')) : Rn w r0 kv rv' ov kx ys' vs rs W' :=
  ⟨h.k.kept hg (V.own_apart (by decide) h.k h.r), hk, h.o.kept hg (V.own_apart (by decide) h.o h.r), h.rw.kept hg (fun j a b => by
    cases hv : (vs[j]).ownBlock with
    | none => exact .inl rfl
    | some g => exact .inr fun e => absurd (own_base h.r g e.symm) (Nat.not_le.2 (h.sep j b a g hv))), h.b.grown hg h.b.size (fun g e => Nat.le_trans h.s0 (own_base h.r g e)), Nat.le_trans h.s hg.size, h.s0, h.sep⟩

set_option maxRecDepth 100000 in
set_option maxHeartbeats 8000000 in
theorem rnumbers_any (A : Option Addr) (cap : Nat) (ls : List (List Ln)) (w : World) (hA : ListsIn w A ls) (h5 : ls.length ≤ 5) (h60 : ∀ l ∈ ls, l.length ≤ 60) :
    Calls Try.prog 34 #[.slice A ls.length cap] w (NmEnd w (numsAll [] ls)) := by
  obtain ⟨i0, hi0, hz0, hz1, hz2⟩ := info_parts infoRow
  obtain ⟨l0, hl0, ly0, ly1, ly2⟩ := info_parts infoLine
  obtain ⟨n0, hn0, ny0, ny1, ny2⟩ := info_parts L.infoInt
  have HA := Lib.hid hA
  have H60 := Lib.hid h60
  clear hA h60
  obtain ⟨W0, hW0⟩ : ∃ W : World, W = (w.alloc (.cells #[] 51)).alloc (.cells #[] 67) := ⟨_, rfl⟩
  have HB0 := Lib.hid (show Below w.heap.size w W0 by rw [hW0]; exact (alloc1 _ _).alloc (by simp) _)
  have HK0 := Lib.hid (show W0.ownsRow w.heap.size 51 2 (.slice (some ⟨w.heap.size, 0, none⟩) 0 0) 0 [] by rw [hW0]; exact (World.ownsRow_made w #[] 0 (Nat.le_refl _) (Nat.zero_le _) rfl).alloc _)
  have HO0 := Lib.hid (show W0.ownsRow w.heap.size 67 1 (.slice (some ⟨w.heap.size + 1, 0, none⟩) 0 0) 0 [] by
    have := World.ownsRow_made (e := 67) (size := 1) (w.alloc (.cells #[] 51)) #[] 0 (Nat.le_refl _) (Nat.zero_le _) rfl
    rw [World.size_alloc] at this
    rw [hW0]
    exact own_more this (by omega))
  go_enter Try.func34, Try.ntmps34
  go_wp2_with fail
  rw [← hW0]
  clear hW0
  go_loopg [3, 4, 5] ls.length (fun q kv ov i wr => ∃ (k : Nat) (vs : List Value), k ≤ ls.length ∧ i = .int .i64 k ∧ ls.length - k ≤ q ∧ wr.ownsRow w.heap.size 51 2 kv (knownAll [] (ls.take k)).length (lineCells (knownAll [] (ls.take k))) ∧ wr.ownsRow w.heap.size 67 1 ov vs.length vs ∧ Rws wr w.heap.size vs (numsAll [] (ls.take k)) ∧ Below w.heap.size w wr ∧ vs.length = k)
  case atStart => exact ⟨0, [], Nat.zero_le _, rfl, by omega, by simpa [knownAll, lineCells] using HK0.out, HO0.out, by simpa [numsAll] using Rws.nil W0 w.heap.size, HB0.out, rfl⟩
  case round =>
    obtain ⟨k, vs, hk, rfl, hmm, hkn, hout, hrw, hbr, hvl⟩ := hrel
    by_cases hlt : k < ls.length
    · obtain ⟨bk, off, hAe, hbk, hI⟩ := HA.out (by omega)
      subst hAe
      obtain ⟨B, cB, q0, q1, q2⟩ := hI k hlt
      have HQ0 := Lib.hid q0
      have HQ1 := Lib.hid q1
      have HBK := Lib.hid hbk
      have HN := Lib.hid (numsAll_take (ks := []) hlt)
      have HKA := Lib.hid (knownAll_take (ks := []) hlt)
      have h0k : (0 : Int) ≤ (k : Int) := by omega
      have hki : (k : Int) < (ls.length : Int) := by omega
      have hkl := knownAll_length (ls.take k) [] (fun y hy => H60.out y (List.mem_of_mem_take hy))
      have hll := H60.out _ (List.getElem_mem hlt)
      have hkl2 : (knownAll [] (ls.take k)).length ≤ 300 := by rw [List.length_take] at hkl; simp at hkl; omega
      obtain ⟨l, hl⟩ : ∃ l, l = ls[k] := ⟨_, rfl⟩
      obtain ⟨kk, hkk⟩ : ∃ kk, kk = knownAll [] (ls.take k) := ⟨_, rfl⟩
      obtain ⟨rs, hrs⟩ : ∃ rs, rs = numsAll [] (ls.take k) := ⟨_, rfl⟩
      rw [← hl] at HQ0 HQ1 HN HKA hll
      rw [← hkk] at HN HKA hkl2 hkn
      rw [← hrs] at HN hrw
      clear hI q0 q1 hl hkk hrs hkl
      have HSEP := Lib.hid (fun j (h : j < vs.length) (h' : j < rs.length) g (hg : vs[j].ownBlock = some g) => own_lt (hrw.2 j h' h) g hg)
      obtain ⟨W1, hW1⟩ : ∃ W : World, W = wr.alloc (.cells #[] 3) := ⟨_, rfl⟩
      have hb1 : Below wr.heap.size wr W1 := by rw [hW1]; exact alloc1 _ _
      have HR1 := Lib.hid (show W1.ownsRow wr.heap.size 3 1 (.slice (some ⟨wr.heap.size, 0, none⟩) 0 0) 0 [] by rw [hW1]; exact World.ownsRow_made wr #[] 0 (Nat.le_refl _) (Nat.zero_le _) rfl)
      have HK1 := Lib.hid (own_below hkn hb1)
      have HO1 := Lib.hid (own_below hout hb1)
      have HW1 := Lib.hid (hrw.below hb1)
      have hbs := hbr.size
      have hs1 := hb1.size
      have HB1 := Lib.hid (hbr.trans (hb1.mono hbs))
      clear hkn hout hrw hbr hb1
      go_wp2_with fail
      rw [← hW1]
      clear hW1
      obtain ⟨r0, hr0⟩ : ∃ r, r = wr.heap.size := ⟨_, rfl⟩
      rw [← hr0] at HSEP HR1 hbs hs1 ⊢
      clear hr0
      have HRN0 := Lib.hid (show Rn w r0 u3 (.slice (some ⟨r0, 0, none⟩) 0 0) u4 kk [] vs rs W1 from ⟨HK1.out, HR1.out, HO1.out, HW1.out, HB1.out, by omega, hbs, fun j h h' g hg => HSEP.out j h h' g hg⟩)
      go_loopg [3, 6, 7] l.length (fun q kv rv i wx => ∃ (j : Nat) (ys : List Int), j ≤ l.length ∧ i = .int .i64 j ∧ l.length - j ≤ q ∧ Rn w r0 kv rv u4 (known kk (l.take j)) ys vs rs wx ∧ ys.length = j ∧ Hid (ys = row kk (l.take j)))
      case atStart => exact ⟨0, [], Nat.zero_le _, rfl, by omega, by simpa [known] using HRN0.out, rfl, Lib.hid (by simp [row])⟩
      case round =>
        obtain ⟨j, ys, hj, rfl, hjm, hrn, hyl, HY⟩ := hrel
        have HYL := Lib.hid hyl
        have hyb : ys.length ≤ 60 := by omega
        clear hyl
        have c0 := (hrn.b.cell (p := ⟨bk, off + k, none⟩) HBK.out).trans HQ0.out
        have hkxl : (known kk (l.take j)).length ≤ 300 + 60 := by
          have := known_length (l.take j) kk
          rw [List.length_take] at this
          omega
        obtain ⟨KA, kcap, rfl, -, -⟩ := own_form hrn.k
        obtain ⟨RA, rcap, rfl, -, -⟩ := own_form hrn.r
        by_cases hjl : j < l.length
        · obtain ⟨bl, ol, hBe, hbl, hL⟩ := HQ1.out (by omega)
          subst hBe
          obtain ⟨p0, p1⟩ := hL j hjl
          have c1 := (hrn.b.cell (p := ⟨bl, ol + j * 2, none⟩) hbl).trans p0
          have c2 := (hrn.b.cell (p := ⟨bl, ol + j * 2 + 1, none⟩) hbl).trans p1
          have HRT := Lib.hid (row_take (ks := kk) hjl)
          have HKT := Lib.hid (known_take (ks := kk) hjl)
          rw [← HY.out] at HRT
          have h0j : (0 : Int) ≤ (j : Int) := by omega
          have hji : (j : Int) < (l.length : Int) := by omega
          obtain ⟨x, hx⟩ : ∃ x, x = l[j] := ⟨_, rfl⟩
          obtain ⟨kx, hkx⟩ : ∃ kx, kx = known kk (l.take j) := ⟨_, rfl⟩
          rw [← hx] at c1 c2 HRT HKT
          rw [← hkx] at HRT HKT hrn hkxl ⊢
          have HRN := Lib.hid hrn
          have HKL := Lib.hid (V.lines_own hrn.k)
          clear hx hkx hL p0 p1 hrn
          go_wp2_with fail
          go_loopg [8] kx.length (fun q nv wn => ∃ n, n ≤ kx.length ∧ nv = .int .i64 n ∧ kx.length - n ≤ q ∧ (∃ d, wn = wr.drewN d) ∧ Hid (∀ i (hi : i < kx.length), i < n → ¬ kx[i] = x))
          case atStart => exact ⟨0, Nat.zero_le _, rfl, by omega, ⟨0, rfl⟩, Lib.hid fun i hi h => absurd h (by omega)⟩
          case round =>
            obtain ⟨n, hn, rfl, hnm, ⟨d, rfl⟩, HJ⟩ := hrel
            by_cases hnk : n < kx.length
            · obtain ⟨bq, oq, hQe, hbq, hQ⟩ := HKL.out (by omega)
              subst hQe
              obtain ⟨d0, d1⟩ := hQ n hnk
              have h0n : (0 : Int) ≤ (n : Int) := by omega
              have hni : (n : Int) < (kx.length : Int) := by omega
              have HXN := Lib.hid (fun (h : ¬ kx[n] = x) => fun i (hi : i < kx.length) (hin : i < n + 1) => (by
                by_cases e : i = n
                · subst e; exact h
                · exact HJ.out i hi (by omega) : ¬ kx[i] = x))
              have HXY := Lib.hid (fun (h : kx[n] = x) => (⟨by unfold add; rw [if_pos (by rw [← h]; exact List.getElem_mem hnk)], pos_is HJ.out hn (fun _ => h)⟩ : add kx x = kx ∧ pos kx x = n))
              obtain ⟨y, hy⟩ : ∃ y, y = kx[n] := ⟨_, rfl⟩
              rw [← hy] at d0 d1 HXN HXY
              clear hy hQ HJ
              obtain ⟨y1, y2⟩ := y
              by_cases he : (y1, y2) = x
              · obtain ⟨ha, hp⟩ := HXY.out he
                subst he
                rw [ha] at HRT HKT
                have hpi : ((kx.idxOf (y1, y2) : Nat) : Int) = (n : Int) := by unfold pos at hp; rw [hp]
                rw [hpi] at HRT
                clear ha hp hpi HXN HXY
                simp only at c1 c2 d0 d1
                obtain ⟨s, hs⟩ : ∃ s : ByteArray, s = ⟨y1.toArray⟩ := ⟨_, rfl⟩
                rw [← hs] at c1 d0
                have hnn : ((n : Int) == (kx.length : Int)) = false := by simp; omega
                go_wp2_with fail
                have hsr := HRN.out.s
                go_quiet (fail)
                go_wp2_with (at_builtin; refine wpList_append_own _ rfl _ _ 67 rfl r0 3 n0 _ 1 8 Try.underlying67 hn0 ny0 ny1 ny2 rfl (by decide) _ ys.length (numCells ys) rfl ((HRN.out.below (drawn_below wr _)).r.alloc _) ⟨_, 0, none⟩ 1 1 [.int .i64 n] rfl rfl (World.news_of_block (alloc_at _ (by first | rfl | simp))) (by intro u hu; simp at hu; rcases hu with rfl; rfl) (by simp only [maxLen]; omega) (by omega) (by first | omega | (simp; omega)) ?_; intro v' w4 hown4 hg4 _)
                have hrn5 : Rn w r0 (.slice (some ⟨bq, oq, none⟩) kx.length kcap) v' u4 kx (ys ++ [(n : Int)]) vs rs w4 := ((HRN.out.below (drawn_below wr _)).below (alloc1 _ _)).addR hg4 (by rw [numCells_snoc]; simpa using hown4)
                clear hown4 hg4
                go_wp2_with fail
                go_roundg (l.length - (j + 1))
                case rel => exact ⟨j + 1, ys ++ [(n : Int)], by omega, by go_num, Nat.le_refl _, by rw [HKT.out]; exact hrn5, by simp [HYL.out], Lib.hid (by rw [HRT.out])⟩
                case measure => omega
              · have HX2 := Lib.hid (HXN.out he)
                clear HXN HXY
                obtain ⟨x1, x2⟩ := x
                simp only at c1 c2 d0 d1
                have HE := Lib.hid (ln_ne he)
                clear he
                simp only at HE
                obtain ⟨s, hs⟩ : ∃ s : ByteArray, s = ⟨y1.toArray⟩ := ⟨_, rfl⟩
                obtain ⟨t, ht⟩ : ∃ t : ByteArray, t = ⟨x1.toArray⟩ := ⟨_, rfl⟩
                rw [← hs] at d0 HE
                rw [← ht] at c1 HE
                clear hs ht
                rcases HE.out with h | ⟨rfl, h⟩
                all_goals
                  have hn1 := beq_eq_false_iff_ne.2 h
                  have hn2 := bne_iff_ne.2 h
                  clear HE
                  go_wp2_with fail
                  go_quiet (fail)
                  go_wp2_with fail
                  go_roundg (kx.length - (n + 1))
                  case rel => exact ⟨n + 1, by omega, by go_num, Nat.le_refl _, ⟨_, rfl⟩, HX2⟩
                  case measure => omega
            · obtain rfl : n = kx.length := by omega
              have hnotin : x ∉ kx := fun hm => by
                obtain ⟨i, hi, e⟩ := List.mem_iff_getElem.1 hm
                exact HJ.out i hi hi e
              have hadd : add kx x = kx ++ [x] := by unfold add; rw [if_neg hnotin]
              have hpos : ((((kx ++ [x]).idxOf x : Nat)) : Int) = (kx.length : Int) := by rw [List.idxOf_append, if_neg hnotin]; simp
              rw [hadd] at HRT HKT
              rw [hpos] at HRT
              clear hadd hpos hnotin HJ
              obtain ⟨x1, x2⟩ := x
              simp only at c1 c2
              have hlc : lineCells (kx ++ [(x1, x2)]) = lineCells kx ++ [.string ⟨x1.toArray⟩, .bool x2] := lineCells_snoc kx x1 x2
              obtain ⟨s, hs⟩ : ∃ s : ByteArray, s = ⟨x1.toArray⟩ := ⟨_, rfl⟩
              rw [← hs] at c1 hlc
              have HLC := Lib.hid hlc
              clear hs hlc
              have hsr := HRN.out.s
              have hsb := HRN.out.b.size
              go_wp2_with fail
              go_quiet (fail)
              go_wp2_with (first
               | (at_builtin; refine wpList_append_own _ rfl _ _ 22 rfl w.heap.size 51 l0 _ 2 24 Try.underlying22 hl0 ly0 ly1 ly2 rfl (by decide) _ kx.length (lineCells kx) rfl ((HRN.out.below (drawn_below wr _)).k.alloc _) ⟨_, 0, none⟩ 1 1 [.string s, .bool x2] rfl rfl (World.news_of_block (alloc_at _ (by first | rfl | simp))) (by intro u hu; simp at hu; rcases hu with rfl | rfl <;> rfl) (by simp only [maxLen]; omega) (by omega) (by first | omega | (simp; omega)) ?_; intro v' w4 hown4 hg4 _; have HR4 := Lib.hid (((HRN.out.below (drawn_below wr _)).below (alloc1 _ _)).addK (kx' := kx ++ [(x1, x2)]) hg4 (by rw [HLC.out]; simpa using hown4)); clear hown4 hg4; have hsr4 := HR4.out.s)
               | (at_builtin; refine wpList_append_own _ rfl _ _ 67 rfl r0 3 n0 _ 1 8 Try.underlying67 hn0 ny0 ny1 ny2 rfl (by decide) _ ys.length (numCells ys) rfl (HR4.out.r.alloc _) ⟨_, 0, none⟩ 1 1 [.int .i64 kx.length] rfl rfl (World.news_of_block (alloc_at _ (by first | rfl | simp))) (by intro u hu; simp at hu; rcases hu with rfl; rfl) (by simp only [maxLen]; omega) (by omega) (by first | omega | (simp; omega)) ?_; intro v5 w5 hown5 hg5 _))
              have hrn5 : Rn w r0 v' v5 u4 (kx ++ [(x1, x2)]) (ys ++ [(kx.length : Int)]) vs rs w5 := (HR4.out.below (alloc1 _ _)).addR hg5 (by rw [numCells_snoc]; simpa using hown5)
              clear hown5 hg5
              go_wp2_with fail
              go_roundg (l.length - (j + 1))
              case rel => exact ⟨j + 1, ys ++ [(kx.length : Int)], by omega, by go_num, Nat.le_refl _, by rw [HKT.out]; exact hrn5, by simp [HYL.out], Lib.hid (by rw [HRT.out])⟩
              case measure => omega
        · obtain rfl : j = l.length := by omega
          have hy := HY.out
          rw [List.take_length] at hy hrn
          rw [← hy] at HN
          obtain ⟨OA, ocap, rfl, -, -⟩ := own_form hrn.o
          have HRN := Lib.hid hrn
          have hsr := hrn.s
          clear hrn hy HY
          have hvk : vs.length ≤ 5 := by omega
          have HVL := Lib.hid hvl
          clear hvl
          go_wp2_with (at_builtin; refine wpList_append_own _ rfl _ _ 63 rfl w.heap.size 67 i0 _ 1 24 Try.underlying63 hi0 hz0 hz1 hz2 rfl (by decide) _ vs.length vs rfl (HRN.out.o.alloc _) ⟨_, 0, none⟩ 1 1 [.slice RA ys.length rcap] rfl rfl (World.news_of_block (alloc_at _ (by first | rfl | simp))) (by intro u hu; simp at hu; rcases hu with rfl; rfl) (by simp only [maxLen]; omega) (by omega) (by first | omega | (simp; omega)) ?_; intro v' w4 hown4 hg4 _)
          have h1 := HRN.out.below (alloc1 wr (.cells #[.slice RA ys.length rcap] 67))
          have hsn := h1.rw.snoc (own_more h1.r hbs)
          have hrw4 := hsn.kept hg4 (fun i a b => V.own_apart (by decide) (hsn.2 i a b) h1.o)
          have hk4 := h1.k.kept hg4 (V.own_apart (by decide) h1.k h1.o)
          have hb4 := h1.b.grown hg4 h1.b.size (own_base h1.o)
          clear hsn h1 hg4
          go_wp2_with fail
          go_roundg (ls.length - (k + 1))
          case rel => exact ⟨k + 1, vs ++ [.slice RA ys.length rcap], by omega, by go_num, Nat.le_refl _, by rw [HKA.out]; exact hk4, by simpa using hown4, by rw [HN.out]; exact hrw4, hb4, by simp [HVL.out]⟩
          case measure => omega
    · obtain rfl : k = ls.length := by omega
      rw [List.take_length] at hrw
      obtain ⟨RA, rcap, rfl, -, -⟩ := own_form hout
      go_wp2_with fail
      go_ret
      exact ⟨RA, rcap, vs, rfl, hout, hrw, hbr⟩
end Go.Proofs.Ytkflhcfopejigaa.N

namespace Go.Proofs.Ytkflhcfopejigaa.N
set_option linter.unusedVariables false
set_option linter.unusedSimpArgs false
open Go.RowKit
open T
open V (IntsIn numCells numCells_snoc ints_own drawn_below)
open I (alloc1 own_at own_below)

/-- Ends, of two rows whose capacities are told. -/
def EcC (fn : FuncId) (a b : List Int) : Prop := ∀ (W : World) (A B : Option Addr) (c c' : Nat), IntsIn W A a → IntsIn W B b → a.length ≤ c → b.length ≤ c' → Calls Try.prog fn #[.slice A a.length c, .slice B b.length c'] W fun e w' => e = .returned (.tuple #[.int .i64 (cpl a b : Nat), .int .i64 (csl a b : Nat)]) ∧ Below W.heap.size W w'

theorem ints_drop {w : World} {A : Option Addr} {a : List Int} (h : IntsIn w A a) (k : Nat) : IntsIn w (Option.map (fun x => x.add k) A) (a.drop k) := fun hp => by
  obtain ⟨bk, off, rfl, hlt, hI⟩ := h (by simp at hp; omega)
  refine ⟨bk, off + k, by simp [Addr.add], hlt, fun j hj => ?_⟩
  rw [List.getElem_drop, Nat.add_assoc]
  exact hI (k + j) (by simp at hj; omega)
theorem ints_gone {w : World} {A : Option Addr} {a : List Int} {k : Nat} (h : a.length ≤ k) : IntsIn w A (a.drop k) := fun hp => absurd hp (by simp; omega)

end Go.Proofs.Ytkflhcfopejigaa.N

namespace Go.Proofs.Ytkflhcfopejigaa.V
set_option linter.unusedVariables false
set_option linter.unusedSimpArgs false
open Go.RowKit
open T
open I (It Lb ItemsIn ItemsAt ItemsOk itCells itCells_snoc itCells_at items_cells own_at own_below alloc1)

def lvIts : List It := [⟨4, 0, 0, false, [97], false⟩, ⟨5, 1, 0, false, [98], false⟩, ⟨6, 0, 0, true, [], false⟩]
def lvLns : List (List UInt8 × Bool) := [([97], false), ([46, 46, 46], false)]
def lvCut : List It := [⟨4, 0, 0, false, [97], false⟩, ⟨6, 0, 0, true, [], false⟩]
theorem lvLns_is : lns [46, 46, 46] (cut (0, 0) lvIts) = lvLns := by decide
theorem lvCut_is : cut (0, 0) lvIts = lvCut := by decide
theorem lvAts_is : atI (0, 0) lvIts = [0, 2] := by decide
def lvIC : Array Value := #[.int .i64 4, .int .i64 0, .int .u64 0, .bool false, .string ⟨#[97]⟩, .bool false, .int .i64 5, .int .i64 1, .int .u64 0, .bool false, .string ⟨#[98]⟩, .bool false, .int .i64 6, .int .i64 0, .int .u64 0, .bool true, .string ⟨#[]⟩, .bool false]
theorem VoC.at0 {fn : FuncId} {A : Option Addr} {n cap : Nat} {hx : ByteArray} {l : List It} {ls : List (List UInt8 × Bool)} {ts : List Int} (h : VoC fn A n cap 0 0 hx l ls ts) (W : World) (h1 : ItemsIn W A l) :
    Calls Try.prog fn #[.slice A n cap, .agg #[.int .i64 0, .int .u64 0], .string hx] W (VoEnd W ls ts) := h W h1
theorem CuC.at0 {fn : FuncId} {A : Option Addr} {n cap : Nat} {l c : List It} (h : CuC fn A n cap 0 0 l c) (W : World) (h1 : ItemsIn W A l) : Calls Try.prog fn #[.slice A n cap, .agg #[.int .i64 0, .int .u64 0]] W (IsEnd W c) := h W h1
theorem ints_of_block {w : World} {g : Nat} {cs : Array Value} {xs : List Int} (h : w.heap[g]? = some (.cells cs 3 (0, 0))) (hc : cs.toList = numCells xs) : IntsIn w (some ⟨g, 0, none⟩) xs := fun hp => by
  refine ⟨g, 0, rfl, L.blk_lt h, fun j hj => ?_⟩
  rw [L.blk_cell h, Nat.zero_add]
  have : cs.toList[j]? = some (.int .i64 xs[j]) := by rw [hc]; simp [numCells, List.getElem?_eq_getElem hj]
  simpa using this
def I2C (fn : FuncId) (ds : List Int) (n : Nat) : Prop := ∀ (W : World) (A B : Option Addr) (c c' : Nat), IntsIn W A ds → IntsIn W B ds → Calls Try.prog fn #[.slice A ds.length c, .slice B n c'] W fun e w' => e = .returned (.bool true) ∧ Below W.heap.size W w'
theorem I2C.at {fn : FuncId} {ds : List Int} {n : Nat} (h : I2C fn ds n) (W : World) {A B : Option Addr} {c c' : Nat} (h1 : IntsIn W A ds) (h2 : IntsIn W B ds) : Calls Try.prog fn #[.slice A ds.length c, .slice B n c'] W fun e w' => e = .returned (.bool true) ∧ Below W.heap.size W w' := h W A B c c' h1 h2
end Go.Proofs.Ytkflhcfopejigaa.V

namespace Go.Proofs.Ytkflhcfopejigaa.N
set_option linter.unusedVariables false
set_option linter.unusedSimpArgs false
open Go.RowKit
open T
open V (grown_of IntsIn numCells numCells_snoc ints_own drawn_below ints_of_block I2C LvC)
open I (alloc1 own_at own_below)

def ll : List (List Ln) := [[([97], false), ([98], false), ([97], false)], [([99], false), ([98], false)]]
theorem ll_is : numsAll [] ll = [[0, 1, 0], [2, 1]] := by decide
theorem lines_of_block {w : World} {g : Nat} {cs : Array Value} {xs : List Ln} (h : w.heap[g]? = some (.cells cs 51 (0, 0))) (hc : cs.toList = lineCells xs) : LinesIn w (some ⟨g, 0, none⟩) xs := fun hp => by
  refine ⟨g, 0, rfl, L.blk_lt h, fun j hj => ?_⟩
  obtain ⟨h0, h1⟩ := lineCells_at xs j hj
  rw [← hc] at h0 h1
  rw [Nat.zero_add]
  exact ⟨(L.blk_cell h _).trans (by rw [← Array.getElem?_toList]; exact h0), (L.blk_cell h _).trans (by rw [← Array.getElem?_toList]; exact h1)⟩
theorem cn4 {ps : List (Int × Int)} (h : CnR [4] ps) : ps.length = 1 := by
  obtain ⟨cs, rfl, hc, -⟩ := h
  have h1 : Cn [4] [(4, 1)] := ⟨by simp, fun p hp => by simp at hp; subst hp; exact ⟨by simp, by decide⟩, fun n hn => by simp at hn; subst hn; exact ⟨(4, 1), by simp, rfl⟩⟩
  rw [hc.same h1]; rfl
theorem three (w : World) (o0 o1 o2 : Obj) : ∃ W : World, W = ((w.alloc o0).alloc o1).alloc o2 ∧ W.heap[w.heap.size]? = some o0 ∧ W.heap[w.heap.size + 1]? = some o1 ∧ W.heap[w.heap.size + 1 + 1]? = some o2 ∧ Below w.heap.size w W := by
  refine ⟨_, rfl, ?_, ?_, ?_, ?_⟩
  · exact V.alloc_old _ (V.alloc_old _ (V.alloc_at _ rfl))
  · exact V.alloc_old _ (V.alloc_at _ (by simp))
  · exact V.alloc_at _ (by simp)
  · exact ((alloc1 _ _).alloc (by simp) _).alloc (by simp; omega) _

end Go.Proofs.Ytkflhcfopejigaa.N

namespace Go.Proofs.Ytkflhcfopejigaa.N
set_option linter.unusedVariables false
set_option linter.unusedSimpArgs false
open Go.RowKit
open T
open V (grown_of IntsIn numCells numCells_snoc ints_own drawn_below LvC LvC.at)
open I (alloc1 own_at own_below)

/-- Rows of numbers in memory, to be read. -/
def RowsIn (w : World) (A : Option Addr) (rs : List (List Int)) : Prop :=
  0 < rs.length → ∃ bk, A = some ⟨bk, 0, none⟩ ∧ bk < w.heap.size ∧ ∀ j (h : j < rs.length), ∃ B c, w.cell? ⟨bk, j, none⟩ = some (.slice B rs[j].length c) ∧ IntsIn w B rs[j]
theorem RowsIn.below {w w' : World} {A : Option Addr} {rs : List (List Int)} (h : RowsIn w A rs) (hb : Below w.heap.size w w') : RowsIn w' A rs := fun hp => by
  obtain ⟨bk, e, hlt, hl⟩ := h hp
  refine ⟨bk, e, Nat.lt_of_lt_of_le hlt hb.size, fun j hj => ?_⟩
  obtain ⟨B, c, h1, h2⟩ := hl j hj
  exact ⟨B, c, (hb.cell (p := ⟨bk, j, none⟩) hlt).trans h1, h2.below hb⟩
theorem NmEnd.rows {W : World} {rs : List (List Int)} {e : Ending} {w' : World} (h : NmEnd W rs e w') : ∃ A cap, e = .returned (.slice A rs.length cap) ∧ RowsIn w' A rs ∧ Below W.heap.size W w' := by
  obtain ⟨A, cap, vs, rfl, ho, hr, hb⟩ := h
  refine ⟨A, cap, by rw [hr.1], fun hp => ?_, hb⟩
  obtain ⟨g, e, _, hg, hat⟩ := own_at ho (by rw [hr.1]; exact hp)
  refine ⟨g, e, hg, fun j hj => ?_⟩
  have hj' : j < vs.length := by rw [hr.1]; exact hj
  have hro := hr.2 j hj hj'
  obtain ⟨B, c, e2, -, -⟩ := own_form hro
  rw [e2] at hro
  exact ⟨B, c, hat j _ (by rw [List.getElem?_eq_getElem hj', e2]), ints_own hro⟩
theorem numsAll_rows : ∀ (ls : List (List Ln)) (ks : List Ln), ∀ r ∈ numsAll ks ls, ∃ l ∈ ls, r.length = l.length
  | [], _, r, h => by simp [numsAll] at h
  | l :: q, ks, r, h => by
    rw [numsAll, List.mem_cons] at h
    rcases h with rfl | h
    · exact ⟨l, by simp, row_length l ks⟩
    · obtain ⟨l', h1, h2⟩ := numsAll_rows q _ r h
      exact ⟨l', by simp [h1], h2⟩
theorem few_five (ls : List (List Ln)) : (fewL ls).length ≤ 5 := by unfold fewL; simp; omega
theorem few_sixty (ls : List (List Ln)) : ∀ l ∈ fewL ls, l.length ≤ 60 := fun l hl => by
  obtain ⟨q, _, rfl⟩ := List.mem_map.1 hl
  simp; omega
theorem few_lines {P : Ln → Prop} {ls : List (List Ln)} (h : ∀ l ∈ ls, ∀ y ∈ l, P y) : ∀ l ∈ fewL ls, ∀ y ∈ l, P y := fun l hl y hy => by
  obtain ⟨q, hq, rfl⟩ := List.mem_map.1 hl
  exact h q (List.mem_of_mem_take hq) y (List.mem_of_mem_take hy)

end Go.Proofs.Ytkflhcfopejigaa.N

namespace Go.Proofs.Ytkflhcfopejigaa.N
set_option linter.unusedVariables false
set_option linter.unusedSimpArgs false
open Go.RowKit
open T
open V (grown_of IntsIn numCells numCells_snoc ints_own drawn_below)
open I (alloc1 own_at own_below)

/-- Lines and their numbers: each number is the place of its line among those that are known. -/
structure Al (ks xs : List Ln) (ys : List Int) : Prop where
  len : ys.length = xs.length
  at_ : ∀ j (h : j < xs.length) (h' : j < ys.length), ys[j] = ((ks.idxOf xs[j] : Nat) : Int)
  mem : ∀ x ∈ xs, x ∈ ks
theorem Al.nil (ks : List Ln) : Al ks [] [] := ⟨rfl, fun j h => by simp at h, fun x hx => by simp at hx⟩
theorem mem_add (ks : List Ln) (x : Ln) : x ∈ add ks x := by unfold add; split <;> simp_all
theorem mem_add' {ks : List Ln} (x : Ln) {y : Ln} (h : y ∈ ks) : y ∈ add ks x := by unfold add; split <;> simp_all
theorem idx_add {ks : List Ln} (x : Ln) {y : Ln} (h : y ∈ ks) : (add ks x).idxOf y = ks.idxOf y := by
  unfold add
  split
  · rfl
  · rw [List.idxOf_append, if_pos h]
theorem Al.step {ks xs : List Ln} {ys : List Int} (h : Al ks xs ys) (x : Ln) : Al (add ks x) (xs ++ [x]) (ys ++ [(((add ks x).idxOf x : Nat) : Int)]) := by
  refine ⟨by simp [h.len], fun j hj hj' => ?_, fun y hy => ?_⟩
  · by_cases e : j < xs.length
    · have e' : j < ys.length := by rw [h.len]; exact e
      rw [List.getElem_append_left e', List.getElem_append_left e, h.at_ j e e', idx_add x (h.mem _ (List.getElem_mem e))]
    · obtain rfl : j = xs.length := by simp at hj; omega
      rw [List.getElem_append_right (by rw [h.len]; exact Nat.le_refl _), List.getElem_append_right (Nat.le_refl _)]
      simp [h.len]
  · rcases List.mem_append.1 hy with hy | hy
    · exact mem_add' x (h.mem y hy)
    · simp at hy; subst hy; exact mem_add ks y
theorem Al.alike {ks xs : List Ln} {ys : List Int} (h : Al ks xs ys) {i j : Nat} (hi : i < xs.length) (hj : j < xs.length) (hi' : i < ys.length) (hj' : j < ys.length) : ys[i] = ys[j] ↔ xs[i] = xs[j] := by
  rw [h.at_ i hi hi', h.at_ j hj hj']
  constructor
  · intro e
    have e' : ks.idxOf xs[i] = ks.idxOf xs[j] := by omega
    have mi := List.idxOf_lt_length_iff.2 (h.mem _ (List.getElem_mem hi))
    have mj := List.idxOf_lt_length_iff.2 (h.mem _ (List.getElem_mem hj))
    have ei := List.getElem_idxOf mi
    have ej := List.getElem_idxOf mj
    rw [← ei, ← ej]
    simp only [e']
  · intro e; rw [e]
theorem idx_le (ks : List Ln) (x : Ln) : (add ks x).idxOf x ≤ ks.length := by
  by_cases h : x ∈ ks
  · rw [idx_add x h]; exact List.idxOf_le_length
  · unfold add; rw [if_neg h, List.idxOf_append, if_neg h]; simp
theorem top_is (ks : List Ln) (x : Ln) : max ((ks.length : Nat) : Int) ((((add ks x).idxOf x : Nat) : Int) + 1) = (((add ks x).length : Nat) : Int) := by
  by_cases h : x ∈ ks
  · have h1 : ks.idxOf x < ks.length := List.idxOf_lt_length_iff.2 h
    rw [idx_add x h, show add ks x = ks by unfold add; rw [if_pos h]]
    omega
  · have h1 : (add ks x).idxOf x = ks.length := by unfold add; rw [if_neg h, List.idxOf_append, if_neg h]; simp
    rw [h1, show add ks x = ks ++ [x] by unfold add; rw [if_neg h]]
    rw [List.length_append, List.length_singleton]; omega
theorem nums_at : ∀ (ls : List (List Ln)) (ks : List Ln) (i : Nat) (h : i < ls.length) (h' : i < (numsAll ks ls).length), (numsAll ks ls)[i] = row (knownAll ks (ls.take i)) ls[i]
  | [], _, i, h, _ => by simp at h
  | l :: r, ks, 0, _, _ => by simp [numsAll, knownAll]
  | l :: r, ks, i + 1, h, h' => by
    have := nums_at r (known ks l) i (by simpa using h) (by simpa [numsAll] using h')
    simpa [numsAll, knownAll] using this
theorem row_at : ∀ (l ks : List Ln) (k : Nat) (h : k < l.length) (h' : k < (row ks l).length), (row ks l)[k] = (((add (known ks (l.take k)) l[k]).idxOf l[k] : Nat) : Int)
  | [], _, k, h, _ => by simp at h
  | x :: r, ks, 0, _, _ => by simp [row, known]
  | x :: r, ks, k + 1, h, h' => by
    have := row_at r (add ks x) k (by simpa using h) (by simpa [row] using h')
    simpa [row, known] using this
/-- What the law holds in memory: lines, and their numbers. -/
structure Am (w : World) (lv nv : Value) (xs : List Ln) (ys : List Int) (W : World) : Prop where
  l : W.ownsRow w.heap.size 51 2 lv xs.length (lineCells xs)
  n : W.ownsRow w.heap.size 3 1 nv ys.length (numCells ys)
  b : Below w.heap.size w W
theorem Am.below {w : World} {lv nv : Value} {xs : List Ln} {ys : List Int} {W W' : World} (h : Am w lv nv xs ys W) (hb : Below W.heap.size W W') : Am w lv nv xs ys W' := ⟨own_below h.l hb, own_below h.n hb, h.b.trans (hb.mono h.b.size)⟩
theorem Am.addL {w : World} {lv nv lv' : Value} {xs xs' : List Ln} {ys : List Int} {W W' : World} (h : Am w lv nv xs ys W) (hg : W.grownBy W' lv.ownBlock) (hk : W'.ownsRow w.heap.size 51 2 lv' xs'.length (lineCells xs')) : Am w lv' nv xs' ys W' := ⟨hk, h.n.kept hg (V.own_apart (by decide) h.n h.l), h.b.grown hg h.b.size (own_base h.l)⟩
theorem Am.addN {w : World} {lv nv nv' : Value} {xs : List Ln} {ys ys' : List Int} {W W' : World} (h : Am w lv nv xs ys W) (hg : W.grownBy W' nv.ownBlock) (hk : W'.ownsRow w.heap.size 3 1 nv' ys'.length (numCells ys')) : Am w lv nv' xs ys' W' := ⟨h.l.kept hg (V.own_apart (by decide) h.l h.n), hk, h.b.grown hg h.b.size (own_base h.n)⟩
end Go.Proofs.Ytkflhcfopejigaa.N

namespace Go.Proofs.Ytkflhcfopejigaa.M
set_option linter.unusedVariables false
set_option linter.unusedSimpArgs false

/-- How many numbers must be taken out and put in. -/
def ed : List Int → List Int → Nat
  | [], b => b.length
  | x :: a, [] => a.length + 1
  | x :: a, y :: b => if x = y then ed a b else min (ed a (y :: b)) (ed (x :: a) b) + 1
termination_by a b => a.length + b.length
theorem ed_nil1 (b : List Int) : ed [] b = b.length := by rw [ed]
theorem ed_nil2 (a : List Int) : ed a [] = a.length := by cases a <;> simp [ed]
theorem ed_eq (x : Int) (a b : List Int) : ed (x :: a) (x :: b) = ed a b := by rw [ed, if_pos rfl]
theorem ed_ne {x y : Int} (h : ¬ x = y) (a b : List Int) : ed (x :: a) (y :: b) = min (ed a (y :: b)) (ed (x :: a) b) + 1 := by rw [ed, if_neg h]
theorem ed_near : ∀ (n : Nat) (a b : List Int), a.length + b.length ≤ n →
    (∀ x, ed (x :: a) b ≤ ed a b + 1 ∧ ed a b ≤ ed (x :: a) b + 1) ∧ (∀ y, ed a (y :: b) ≤ ed a b + 1 ∧ ed a b ≤ ed a (y :: b) + 1)
  | n, a, b, hn => by
    refine ⟨fun x => ?_, fun y => ?_⟩
    · match b, hn with
      | [], _ => rw [ed_nil2, ed_nil2, List.length_cons]; omega
      | y :: b, hn =>
        match n, hn with
        | 0, hn => simp at hn
        | n + 1, hn =>
          have hR := (ed_near n a b (by simp at hn; omega)).2 y
          have hL := (ed_near n a b (by simp at hn; omega)).1 x
          by_cases h : x = y
          · subst h; rw [ed_eq]; omega
          · rw [ed_ne h]; omega
    · match a, hn with
      | [], _ => rw [ed_nil1, ed_nil1, List.length_cons]; omega
      | x :: a, hn =>
        match n, hn with
        | 0, hn => simp at hn
        | n + 1, hn =>
          have hR := (ed_near n a b (by simp at hn; omega)).2 y
          have hL := (ed_near n a b (by simp at hn; omega)).1 x
          by_cases h : x = y
          · subst h; rw [ed_eq]; omega
          · rw [ed_ne h]; omega
theorem ed_l1 (x : Int) (a b : List Int) : ed (x :: a) b ≤ ed a b + 1 := ((ed_near _ a b (Nat.le_refl _)).1 x).1
theorem ed_l2 (x : Int) (a b : List Int) : ed a b ≤ ed (x :: a) b + 1 := ((ed_near _ a b (Nat.le_refl _)).1 x).2
theorem ed_r1 (y : Int) (a b : List Int) : ed a (y :: b) ≤ ed a b + 1 := ((ed_near _ a b (Nat.le_refl _)).2 y).1
theorem ed_r2 (y : Int) (a b : List Int) : ed a b ≤ ed a (y :: b) + 1 := ((ed_near _ a b (Nat.le_refl _)).2 y).2
theorem ed_mono (x y : Int) (a b : List Int) : ed a b ≤ ed (x :: a) (y :: b) := by
  by_cases h : x = y
  · subst h; rw [ed_eq]; exact Nat.le_refl _
  · rw [ed_ne h]; have := ed_r2 y a b; have := ed_l2 x a b; omega
theorem ed_low : ∀ (n : Nat) (a b : List Int), a.length + b.length ≤ n → a.length ≤ b.length + ed a b ∧ b.length ≤ a.length + ed a b ∧ ed a b ≤ a.length + b.length ∧ (a.length + b.length + ed a b) % 2 = 0
  | n, [], b, _ => by rw [ed_nil1]; simp; omega
  | n, x :: a, [], _ => by rw [ed_nil2]; simp; omega
  | 0, x :: a, y :: b, hn => by simp at hn
  | n + 1, x :: a, y :: b, hn => by
    simp only [List.length_cons] at hn ⊢
    by_cases h : x = y
    · subst h; rw [ed_eq]; have := ed_low n a b (by omega); omega
    · rw [ed_ne h]
      have h1 := ed_low n a (y :: b) (by simp; omega)
      have h2 := ed_low n (x :: a) b (by simp; omega)
      simp only [List.length_cons] at h1 h2
      omega
theorem ed_le (a b : List Int) : ed a b ≤ a.length + b.length := (ed_low _ a b (Nat.le_refl _)).2.2.1

/-- The distance of what is left behind two places. -/
def D (a b : List Int) (i j : Nat) : Nat := ed (a.drop i) (b.drop j)
theorem D_endA {a : List Int} (b : List Int) {i j : Nat} (h : a.length ≤ i) : D a b i j = b.length - j := by rw [D, List.drop_eq_nil_of_le h, ed_nil1, List.length_drop]
theorem D_endB (a : List Int) {b : List Int} {i j : Nat} (h : b.length ≤ j) : D a b i j = a.length - i := by rw [D, List.drop_eq_nil_of_le h, ed_nil2, List.length_drop]
theorem D_eq {a b : List Int} {i j : Nat} (hi : i < a.length) (hj : j < b.length) (h : a[i] = b[j]) : D a b i j = D a b (i + 1) (j + 1) := by
  rw [D, List.drop_eq_getElem_cons hi, List.drop_eq_getElem_cons hj, h, ed_eq]; rfl
theorem D_ne {a b : List Int} {i j : Nat} (hi : i < a.length) (hj : j < b.length) (h : ¬ a[i] = b[j]) : D a b i j = min (D a b (i + 1) j) (D a b i (j + 1)) + 1 := by
  simp only [D]
  rw [List.drop_eq_getElem_cons hi, List.drop_eq_getElem_cons hj, ed_ne h]
theorem D_l {a : List Int} (b : List Int) {i : Nat} (j : Nat) (hi : i < a.length) : D a b i j ≤ D a b (i + 1) j + 1 ∧ D a b (i + 1) j ≤ D a b i j + 1 := by
  simp only [D]; rw [List.drop_eq_getElem_cons hi]; exact ⟨ed_l1 _ _ _, ed_l2 _ _ _⟩
theorem D_r (a : List Int) {b : List Int} (i : Nat) {j : Nat} (hj : j < b.length) : D a b i j ≤ D a b i (j + 1) + 1 ∧ D a b i (j + 1) ≤ D a b i j + 1 := by
  simp only [D]; rw [List.drop_eq_getElem_cons hj]; exact ⟨ed_r1 _ _ _, ed_r2 _ _ _⟩
theorem D_mono1 {a b : List Int} {i j : Nat} (hi : i < a.length) (hj : j < b.length) : D a b (i + 1) (j + 1) ≤ D a b i j := by
  simp only [D]; rw [List.drop_eq_getElem_cons hi, List.drop_eq_getElem_cons hj]; exact ed_mono _ _ _ _
theorem D_mono {a b : List Int} {i j : Nat} : ∀ m, i + m ≤ a.length → j + m ≤ b.length → D a b (i + m) (j + m) ≤ D a b i j
  | 0, _, _ => Nat.le_refl _
  | m + 1, h1, h2 => Nat.le_trans (by have := @D_mono1 a b (i + m) (j + m) (by omega) (by omega); exact this) (D_mono m (by omega) (by omega))
theorem D_low (a b : List Int) {i j : Nat} (hi : i ≤ a.length) (hj : j ≤ b.length) : a.length + j ≤ b.length + i + D a b i j ∧ b.length + i ≤ a.length + j + D a b i j ∧ D a b i j ≤ (a.length - i) + (b.length - j) ∧ ((a.length - i) + (b.length - j) + D a b i j) % 2 = 0 := by
  have := ed_low _ (a.drop i) (b.drop j) (Nat.le_refl _)
  simp only [List.length_drop] at this
  unfold D
  omega

/-- What is kept going back from two places: where that ends in a. -/
def sl (a b : List Int) (i j : Int) : Int :=
  if 0 < i ∧ 0 < j ∧ a.getD (i - 1).toNat 0 = b.getD (j - 1).toNat 0 then sl a b (i - 1) (j - 1) else i
termination_by i.toNat
decreasing_by omega
theorem sl_le (a b : List Int) : ∀ (n : Nat) (i j : Int), i.toNat ≤ n → sl a b i j ≤ i ∧ (0 ≤ i → 0 ≤ sl a b i j) ∧ (i < 0 → sl a b i j = i) ∧ (0 ≤ j → 0 ≤ sl a b i j + j - i) ∧ (j ≤ 0 → sl a b i j = i)
  | n, i, j, hn => by
    rw [sl]
    split
    · rename_i h
      match n, hn with
      | 0, hn => omega
      | n + 1, hn => have := sl_le a b n (i - 1) (j - 1) (by omega); omega
    · omega
theorem getD_at {a : List Int} {k : Nat} (h : k < a.length) : a.getD k 0 = a[k] := by rw [List.getD_eq_getElem?_getD, List.getElem?_eq_getElem h]; rfl
/-- All along what is kept the distance stays. -/
theorem sl_D (a b : List Int) : ∀ (n : Nat) (i j : Int), i.toNat ≤ n → i ≤ a.length → j ≤ b.length → ∀ p q : Nat, sl a b i j ≤ p → (p : Int) ≤ i → (p : Int) - q = i - j → D a b p q = D a b i.toNat j.toNat
  | n, i, j, hn, hi, hj, p, q, h1, h2, h3 => by
    by_cases e : (p : Int) = i
    · have e1 : i.toNat = p := by omega
      have e2 : j.toNat = q := by omega
      rw [e1, e2]
    · rw [sl] at h1
      split at h1
      · rename_i h
        match n, hn with
        | 0, hn => omega
        | n + 1, hn =>
          rw [sl_D a b n (i - 1) (j - 1) (by omega) (by omega) (by omega) p q h1 (by omega) (by omega)]
          have ha : (i - 1).toNat < a.length := by omega
          have hb : (j - 1).toNat < b.length := by omega
          have he := h.2.2
          rw [getD_at ha, getD_at hb] at he
          rw [D_eq ha hb he, show (i - 1).toNat + 1 = i.toNat by omega, show (j - 1).toNat + 1 = j.toNat by omega]
      · omega
/-- Where it ends, nothing more is kept. -/
theorem sl_end (a b : List Int) : ∀ (n : Nat) (i j : Int), i.toNat ≤ n → i ≤ a.length → j ≤ b.length → ∀ p q : Nat, (p : Int) + 1 = sl a b i j → (p : Int) - q = i - j → ∀ (hp : p < a.length) (hq : q < b.length), ¬ a[p] = b[q]
  | n, i, j, hn, hi, hj, p, q, h1, h2, hp, hq => by
    rw [sl] at h1
    split at h1
    · rename_i h
      match n, hn with
      | 0, hn => omega
      | n + 1, hn => exact sl_end a b n (i - 1) (j - 1) (by omega) (by omega) (by omega) p q h1 (by omega) hp hq
    · rename_i h
      intro e
      refine h ⟨by omega, by omega, ?_⟩
      rw [show (i - 1).toNat = p by omega, show (j - 1).toNat = q by omega, getD_at hp, getD_at hq, e]

/-- The place from which the row goes on at diagonal k. -/
def bi (row : List Int) (k : Nat) : Int := min (row.getD (k + 1) 0 - 1) (row.getD (k - 1) 0)
def bk (a b row : List Int) (k : Nat) : Int := sl a b (bi row k) (bi row k + b.length + 1 - k)
/-- Which diagonals are worked out with n changes. -/
def on (a b : List Int) (n k : Nat) : Prop := 1 ≤ k ∧ k ≤ a.length + b.length + 1 ∧ k ≤ a.length + 1 + n ∧ a.length + 1 ≤ k + n
instance (a b : List Int) (n k : Nat) : Decidable (on a b n k) := by unfold on; infer_instance
/-- A row: for each diagonal the first place from which n changes lead to the ends. -/
structure Ro (a b : List Int) (n : Nat) (row : List Int) : Prop where
  len : row.length = a.length + b.length + 3
  far : ∀ k, k < row.length → ¬ on a b n k → row.getD k 0 = a.length + b.length + 1
  near : ∀ k, on a b n k → -(n : Int) ≤ row.getD k 0 ∧ row.getD k 0 ≤ a.length ∧ row.getD k 0 + 1 ≤ k ∧ -(n : Int) ≤ row.getD k 0 + b.length + 1 - k
  is : ∀ i j k, i ≤ a.length → j ≤ b.length → k + j = i + b.length + 1 → (D a b i j ≤ n ↔ row.getD k 0 ≤ i)
/-- The first row. -/
theorem Ro.zero {a b row : List Int} (hl : row.length = a.length + b.length + 3) (he : row.getD (a.length + 1) 0 = sl a b a.length b.length) (hf : ∀ k, k < row.length → ¬ k = a.length + 1 → row.getD k 0 = a.length + b.length + 1) : Ro a b 0 row := by
  have hs := sl_le a b _ a.length b.length (Nat.le_refl _)
  refine ⟨hl, fun k hk hn => hf k hk fun e => hn ⟨by omega, by omega, by omega, by omega⟩, fun k hk => ?_, fun i j k hi hj hk => ?_⟩
  · obtain ⟨h1, h2, h3, h4⟩ := hk
    obtain rfl : k = a.length + 1 := by omega
    rw [he]; omega
  · by_cases e : k = a.length + 1
    · subst e
      rw [he]
      constructor
      · intro hd
        refine Int.not_lt.1 fun hlt => ?_
        have h0 := (sl_le a b _ (a.length : Int) b.length (Nat.le_refl _)).1
        obtain ⟨p, hp⟩ : ∃ p : Nat, (p : Int) + 1 = sl a b a.length b.length := ⟨(sl a b a.length b.length - 1).toNat, by omega⟩
        have hq : ∃ q : Nat, (p : Int) - q = (a.length : Int) - b.length := ⟨(p + b.length - a.length), by omega⟩
        obtain ⟨q, hq⟩ := hq
        have hne := sl_end a b _ a.length b.length (Nat.le_refl _) (by omega) (by omega) p q hp hq (by omega) (by omega)
        have hm := D_mono (a := a) (b := b) (i := i) (j := j) (p - i) (by omega) (by omega)
        rw [show i + (p - i) = p by omega, show j + (p - i) = q by omega] at hm
        have := D_ne (by omega) (by omega) hne
        omega
      · intro h
        have := sl_D a b _ a.length b.length (Nat.le_refl _) (by omega) (by omega) i j h (by omega) (by omega)
        rw [this, D_endA b (by simp)]
        simp
    · rw [hf k (by omega) e]
      have := D_low a b hi hj
      omega
/-- With one change more. -/
theorem Ro.next {a b row row' : List Int} {n : Nat} (h : Ro a b n row) (hl : row'.length = row.length)
    (hk : ∀ k, k < row.length → row'.getD k 0 = if on a b (n + 1) k ∧ (k + n + 1 + a.length + 1) % 2 = 0 then bk a b row k else row.getD k 0) : Ro a b (n + 1) row' := by
  have hlen := h.len
  -- what is worked out
  have hb : ∀ k, on a b (n + 1) k → (k + n + 1 + a.length + 1) % 2 = 0 → -((n : Int) + 1) ≤ bi row k ∧ bi row k ≤ a.length ∧ bi row k + 1 ≤ k ∧ -((n : Int) + 1) ≤ bi row k + b.length + 1 - k := fun k hon hpar => by
    obtain ⟨o1, o2, o3, o4⟩ := hon
    have hbi : bi row k = min (row.getD (k + 1) 0 - 1) (row.getD (k - 1) 0) := rfl
    by_cases u : on a b n (k + 1)
    · have hu := h.near _ u
      by_cases v : on a b n (k - 1)
      · have hv := h.near _ v; omega
      · have hv := h.far (k - 1) (by omega) v
        by_cases q : k = a.length + b.length + 1
        · omega
        · omega
    · have hu := h.far (k + 1) (by omega) u
      by_cases v : on a b n (k - 1)
      · have hv := h.near _ v
        omega
      · have hv := h.far (k - 1) (by omega) v
        unfold on at u v
        omega
  have hwin : ∀ k, on a b (n + 1) k → ¬ (k + n + 1 + a.length + 1) % 2 = 0 → on a b n k := fun k ⟨o1, o2, o3, o4⟩ hp => ⟨o1, o2, by omega, by omega⟩
  refine ⟨by omega, fun k hkl hn => ?_, fun k hon => ?_, fun i j k hi hj hkj => ?_⟩
  · rw [hk k (by omega), if_neg fun q => hn q.1]
    exact h.far k (by omega) fun q => hn ⟨q.1, q.2.1, by have := q.2.2.1; omega, by have := q.2.2.2; omega⟩
  · have hlt : k < row.length := by have := hon.2.1; omega
    rw [hk k hlt]
    by_cases hp : (k + n + 1 + a.length + 1) % 2 = 0
    · rw [if_pos ⟨hon, hp⟩]
      have h0 := hb k hon hp
      have hs := sl_le a b _ (bi row k) (bi row k + b.length + 1 - k) (Nat.le_refl _)
      unfold bk
      omega
    · rw [if_neg fun q => hp q.2]
      have := h.near k (hwin k hon hp)
      omega
  · have hlt : k < row.length := by omega
    have hlow := D_low a b hi hj
    rw [hk k hlt]
    by_cases hon : on a b (n + 1) k
    · by_cases hp : (k + n + 1 + a.length + 1) % 2 = 0
      · rw [if_pos ⟨hon, hp⟩]
        have h0 := hb k hon hp
        have hj0 : bi row k - (bi row k + b.length + 1 - k) = (i : Int) - j := by omega
        have hbi : bi row k = min (row.getD (k + 1) 0 - 1) (row.getD (k - 1) 0) := rfl
        obtain ⟨o1, o2, o3, o4⟩ := hon
        -- from the first place on
        have hfrom : ∀ p q : Nat, p ≤ a.length → q ≤ b.length → k + q = p + b.length + 1 → bi row k ≤ p → D a b p q ≤ n + 1 := fun p q hpa hqb hkq hle => by
          rcases Nat.lt_or_ge p a.length with hpl | hpl
          · rcases Nat.lt_or_ge q b.length with hql | hql
            · by_cases e : row.getD (k - 1) 0 ≤ p
              · have := (h.is p (q + 1) (k - 1) hpa (by omega) (by omega)).2 e
                have := (D_r a p hql).1
                omega
              · have := (h.is (p + 1) q (k + 1) (by omega) hqb (by omega)).2 (by omega)
                have := (D_l b q hpl).1
                omega
            · rw [D_endB a hql]; omega
          · rw [D_endA b hpl]; omega
        have hs := sl_le a b _ (bi row k) (bi row k + b.length + 1 - k) (Nat.le_refl _)
        constructor
        · intro hd
          refine Int.not_lt.1 fun hgt => ?_
          unfold bk at hgt
          obtain ⟨p, hpe⟩ : ∃ p : Nat, (p : Int) + 1 = sl a b (bi row k) (bi row k + b.length + 1 - k) := ⟨(sl a b (bi row k) (bi row k + b.length + 1 - k) - 1).toNat, by omega⟩
          have hq : ∃ q : Nat, (p : Int) - q = bi row k - (bi row k + b.length + 1 - k) := ⟨(p + b.length + 1 - k), by omega⟩
          obtain ⟨q, hq⟩ := hq
          have hne := sl_end a b _ (bi row k) (bi row k + b.length + 1 - k) (Nat.le_refl _) (by omega) (by omega) p q hpe hq (by omega) (by omega)
          have hm := D_mono (a := a) (b := b) (i := i) (j := j) (p - i) (by omega) (by omega)
          rw [show i + (p - i) = p by omega, show j + (p - i) = q by omega] at hm
          have hdn := D_ne (by omega) (by omega) hne
          rcases Nat.le_total (D a b (p + 1) q) (D a b p (q + 1)) with hle | hle
          · have := (h.is (p + 1) q (k + 1) (by omega) (by omega) (by omega)).1 (by omega)
            omega
          · have := (h.is p (q + 1) (k - 1) (by omega) (by omega) (by omega)).1 (by omega)
            omega
        · intro hle
          by_cases e : bi row k ≤ i
          · exact hfrom i j hi hj hkj e
          · unfold bk at hle
            rw [sl_D a b _ (bi row k) (bi row k + b.length + 1 - k) (Nat.le_refl _) (by omega) (by omega) i j hle (by omega) (by omega)]
            exact hfrom _ _ (by omega) (by omega) (by omega) (by omega)
      · rw [if_neg fun q => hp q.2]
        have := h.is i j k hi hj hkj
        omega
    · rw [if_neg fun q => hon q.1]
      have hno : ¬ on a b n k := fun q => hon ⟨q.1, q.2.1, by have := q.2.2.1; omega, by have := q.2.2.2; omega⟩
      have hf := h.far k hlt hno
      rw [hf]
      unfold on at hon
      omega
/-- The way: 1: kept, 2: taken out, 3: put in. -/
def way : List Int → List Int → List Int
  | [], [] => []
  | [], _ :: b => 3 :: way [] b
  | _ :: a, [] => 2 :: way a []
  | x :: a, y :: b => if x = y then 1 :: way a b else if ed a (y :: b) + 1 = ed (x :: a) (y :: b) then 2 :: way a (y :: b) else 3 :: way (x :: a) b
termination_by a b => a.length + b.length
/-- What is left of it behind two places. -/
def Wy (a b : List Int) (i j : Nat) : List Int := way (a.drop i) (b.drop j)
theorem Wy_end {a b : List Int} {i j : Nat} (hi : a.length ≤ i) (hj : b.length ≤ j) : Wy a b i j = [] := by rw [Wy, List.drop_eq_nil_of_le hi, List.drop_eq_nil_of_le hj, way]
theorem Wy_keep {a b : List Int} {i j : Nat} (hi : i < a.length) (hj : j < b.length) (h : a[i] = b[j]) : Wy a b i j = 1 :: Wy a b (i + 1) (j + 1) := by
  simp only [Wy]; rw [List.drop_eq_getElem_cons hi, List.drop_eq_getElem_cons hj, way, if_pos h]
/-- Is that which stands at both places kept? -/
def kept (a b : List Int) (i j : Nat) : Bool := decide (i < a.length ∧ j < b.length ∧ a.getD i 0 = b.getD j 0)
def outs (a b : List Int) (i j : Nat) : Bool := decide (i < a.length ∧ D a b (i + 1) j + 1 = D a b i j)
theorem kept_yes {a b : List Int} {i j : Nat} (h : kept a b i j = true) : ∃ (hi : i < a.length) (hj : j < b.length), a[i] = b[j] := by
  obtain ⟨h1, h2, h3⟩ := of_decide_eq_true h
  exact ⟨h1, h2, (getD_at h1).symm.trans (h3.trans (getD_at h2))⟩
theorem kept_no {a b : List Int} {i j : Nat} (h : kept a b i j = false) (hi : i < a.length) (hj : j < b.length) : ¬ a[i] = b[j] := fun e => by
  have := of_decide_eq_false h
  exact this ⟨hi, hj, by rw [getD_at hi, getD_at hj, e]⟩
theorem Wy_kept {a b : List Int} {i j : Nat} (h : kept a b i j = true) : Wy a b i j = 1 :: Wy a b (i + 1) (j + 1) ∧ D a b i j = D a b (i + 1) (j + 1) := by
  obtain ⟨hi, hj, e⟩ := kept_yes h
  exact ⟨Wy_keep hi hj e, D_eq hi hj e⟩
theorem Wy_out {a b : List Int} {i j : Nat} (h : kept a b i j = false) (ho : outs a b i j = true) : Wy a b i j = 2 :: Wy a b (i + 1) j ∧ D a b (i + 1) j + 1 = D a b i j := by
  obtain ⟨hi, hd⟩ := of_decide_eq_true ho
  refine ⟨?_, hd⟩
  rcases Nat.lt_or_ge j b.length with hj | hj
  · have hn := kept_no h hi hj
    simp only [D] at hd
    simp only [Wy]
    rw [List.drop_eq_getElem_cons hi, List.drop_eq_getElem_cons hj] at hd
    rw [List.drop_eq_getElem_cons hi, List.drop_eq_getElem_cons hj, way, if_neg hn, if_pos hd]
  · simp only [Wy]
    rw [List.drop_eq_getElem_cons hi, List.drop_eq_nil_of_le hj, way]
theorem Wy_in {a b : List Int} {i j : Nat} (h : kept a b i j = false) (ho : outs a b i j = false) (hj : j < b.length) : Wy a b i j = 3 :: Wy a b i (j + 1) ∧ D a b i (j + 1) + 1 = D a b i j := by
  have hno := of_decide_eq_false ho
  rcases Nat.lt_or_ge i a.length with hi | hi
  · have hn := kept_no h hi hj
    have hd : ¬ D a b (i + 1) j + 1 = D a b i j := fun e => hno ⟨hi, e⟩
    have hD := D_ne hi hj hn
    refine ⟨?_, by omega⟩
    simp only [D] at hd
    simp only [Wy]
    rw [List.drop_eq_getElem_cons hi, List.drop_eq_getElem_cons hj] at hd
    rw [List.drop_eq_getElem_cons hi, List.drop_eq_getElem_cons hj, way, if_neg hn, if_neg hd]
  · refine ⟨?_, by rw [D_endA b hi, D_endA b hi]; omega⟩
    simp only [Wy]
    rw [List.drop_eq_nil_of_le hi, List.drop_eq_getElem_cons hj, way]
/-- Where b is at its end, what is left of a is taken out. -/
theorem in_ends {a b : List Int} {i j : Nat} (ho : outs a b i j = false) (hg : i < a.length ∨ j < b.length) : j < b.length := by
  rcases Nat.lt_or_ge j b.length with hj | hj
  · exact hj
  · exfalso
    have hi : i < a.length := by omega
    exact of_decide_eq_false ho ⟨hi, by rw [D_endB a hj, D_endB a hj]; omega⟩
theorem left_pos {a b : List Int} {i j : Nat} (h : kept a b i j = false) (hg : i < a.length ∨ j < b.length) : 0 < D a b i j := by
  rcases Nat.lt_or_ge i a.length with hi | hi
  · rcases Nat.lt_or_ge j b.length with hj | hj
    · rw [D_ne hi hj (kept_no h hi hj)]; omega
    · rw [D_endB a hj]; omega
  · rw [D_endA b hi]; omega
/-- What the rows tell: is taking out as short? -/
theorem outs_is {a b row : List Int} {i j m : Nat} (hi : i < a.length) (hj : j ≤ b.length) (hm : D a b i j = m + 1) (h : Ro a b m row) : outs a b i j = decide (row.getD (i + 1 + b.length + 1 - j) 0 ≤ ((i + 1 : Nat) : Int)) := by
  have h1 := h.is (i + 1) j (i + 1 + b.length + 1 - j) (by omega) hj (by omega)
  have h2 := D_l b j hi
  unfold outs
  rw [Bool.eq_iff_iff, decide_eq_true_iff, decide_eq_true_iff, ← h1]
  constructor
  · intro ⟨_, e⟩; omega
  · intro e; exact ⟨hi, by omega⟩
/-- What is told: the steps with their places. -/
def told : Nat → Nat → List Int → List (Int × Nat × Nat)
  | _, _, [] => []
  | i, j, s :: r => (s, i, j) :: told (if s = 3 then i else i + 1) (if s = 2 then j else j + 1) r
theorem told_steps : ∀ (s : List Int) (i j : Nat), (told i j s).map (·.1) = s
  | [], _, _ => rfl
  | s :: r, i, j => by rw [told, List.map_cons, told_steps r]
/-- What is kept, of what is told. -/
def prs (l : List (Int × Nat × Nat)) : List (Int × Int) := (l.filter fun t => t.1 = 1).map fun t => ((t.2.1 : Int), (t.2.2 : Int))
theorem prs_snoc (l : List (Int × Nat × Nat)) (t : Int × Nat × Nat) : prs (l ++ [t]) = prs l ++ if t.1 = 1 then [((t.2.1 : Int), (t.2.2 : Int))] else [] := by
  unfold prs
  rw [List.filter_append, List.map_append]
  congr 1
  by_cases h : t.1 = 1 <;> simp [h]
def pairs (a b : List Int) : List (Int × Int) := prs (told 0 0 (way a b))
theorem way_le : ∀ (n : Nat) (a b : List Int), a.length + b.length ≤ n → (way a b).length ≤ a.length + b.length
  | n, [], [], _ => by simp [way]
  | 0, [], _ :: _, h => by simp at h
  | 0, _ :: _, _, h => by simp at h
  | n + 1, [], y :: b, h => by rw [way]; have := way_le n [] b (by simp at h ⊢; omega); simp at this ⊢; omega
  | n + 1, x :: a, [], h => by rw [way]; have := way_le n a [] (by simp at h ⊢; omega); simp at this ⊢; omega
  | n + 1, x :: a, y :: b, h => by
    rw [way]
    have h1 := way_le n a b (by simp at h; omega)
    have h2 := way_le n a (y :: b) (by simp at h ⊢; omega)
    have h3 := way_le n (x :: a) b (by simp at h ⊢; omega)
    simp only [List.length_cons] at h2 h3 ⊢
    split
    · simp; omega
    · split <;> simp <;> omega
end Go.Proofs.Ytkflhcfopejigaa.M

namespace Go.Proofs.Ytkflhcfopejigaa.M
set_option linter.unusedVariables false
set_option linter.unusedSimpArgs false
open Go.RowKit
open T
open V (IntsIn numCells numCells_snoc ints_own drawn_below)
open I (alloc1 own_at own_below)

theorem drewN_add (w : World) (q n : Nat) : (w.drewN q).drewN n = w.drewN (q + n) := by simp [World.drewN, Nat.add_assoc]
theorem sl_step {a b : List Int} {p q r : Int} (h : true = decide (0 < p ∧ 0 < q ∧ a.getD (p - 1).toNat 0 = b.getD (q - 1).toNat 0)) (hs : sl a b p q = r) : 0 < p ∧ 0 < q ∧ sl a b (p - 1) (q - 1) = r := by
  have := of_decide_eq_true h.symm
  rw [sl, if_pos this] at hs
  exact ⟨this.1, this.2.1, hs⟩
theorem sl_stop {a b : List Int} {p q r : Int} (h : false = decide (0 < p ∧ 0 < q ∧ a.getD (p - 1).toNat 0 = b.getD (q - 1).toNat 0)) (hs : sl a b p q = r) : r = p := by
  have := of_decide_eq_false h.symm
  rw [sl, if_neg this] at hs
  exact hs.symm

end Go.Proofs.Ytkflhcfopejigaa.M
