/-
  The law ItemLines, walked: it returns true for all lines and every label, where the library's table of powers of ten holds what its text lays.
-/
import Derived.Test.YtadhhamfikpimaaDoorGij
namespace Go.Proofs.YtadhhamfikpimaaDoor.I
set_option linter.unusedVariables false
set_option linter.unusedSimpArgs false
open Go.RowKit
open T
open O (own_ne grown_of grown_set ne_type)

/-- A row of strings. -/
def StrsIn (w : World) (A : Option Addr) (ss : List ByteArray) : Prop := 0 < ss.length → ∃ bk off, A = some ⟨bk, off, none⟩ ∧ bk < w.heap.size ∧ ∀ j (hj : j < ss.length), w.cell? ⟨bk, off + j, none⟩ = some (.string ss[j])
theorem str_list (x : ByteArray) : x = ⟨x.data.toList.toArray⟩ := by cases x; simp
theorem no_ten (x : ByteArray) (h : ∀ j (hj : j < x.size), j < x.size → (x[j].toNat : Int) ≠ 10) : (10 : UInt8) ∉ x.data.toList := fun hm => by
  obtain ⟨j, hj, e⟩ := List.getElem_of_mem hm
  have hj' : j < x.size := by rw [Lib.size_eq]; exact hj
  rw [T.byte x j hj' hj] at e
  exact h j hj' hj' (by rw [e]; rfl)

set_option maxRecDepth 100000 in
set_option maxHeartbeats 4000000 in
theorem ilines_walk (A : Option Addr) (cap : Nat) (ss : List ByteArray) (a : Lb) (ha : a.2 < 18446744073709551616) (w : World) (hA : StrsIn w A ss) (hss : ss.length ≤ maxLen) (hsz : ∀ j (hj : j < ss.length), ss[j].size ≤ maxLen) (hT : Tab w) :
    Calls Tryd.prog 11 #[.slice A ss.length cap, .agg #[.int .i64 a.1, .int .u64 (a.2 : Int)]] w fun e w' => e = .returned (.bool true) ∧ Below w.heap.size w w' := by
  obtain ⟨i0, hi0, hz0, hz1, hz2⟩ := info_parts infoItem
  have HSZ := Lib.hid hsz
  clear hsz
  unfold maxLen at hss
  obtain ⟨a0, a1⟩ := a
  simp only at ha ⊢
  obtain ⟨W0, hW0⟩ : ∃ W : World, W = w.alloc (.cells #[.int .i64 a0, .int .u64 (a1 : Int)] 40) := ⟨_, rfl⟩
  have hb0 : Below w.heap.size w W0 := by rw [hW0]; exact alloc1 _ _
  have hx0 : W0.heap[w.heap.size]? = some (.cells #[.int .i64 a0, .int .u64 (a1 : Int)] 40 (0, 0)) := by rw [hW0]; exact heap_alloc_new w _
  obtain ⟨xb, hxb⟩ : ∃ xb, xb = w.heap.size := ⟨_, rfl⟩
  rw [← hxb] at hx0
  have hs0 : xb < W0.heap.size := L.blk_lt hx0
  have HB0 := Lib.hid hb0
  have HX0 := Lib.hid hx0
  have HA := Lib.hid hA
  have HT := Lib.hid (hT.later hb0)
  have HXB := Lib.hid hxb
  clear hb0 hx0 hA hT
  go_enter Tryd.func11, Tryd.ntmps11
  go_wp2_with fail
  rw [← hW0, ← hxb]
  clear hW0 hxb
  go_loopg [5, 6] ss.length (fun m v i wr => ∃ (k : Nat) (ys : List It), k ≤ ss.length ∧ i = .int .i64 k ∧ ss.length - k ≤ m ∧ LnOk (a0, a1) ys ∧ wr.ownsRow W0.heap.size 53 6 v ys.length (itCells ys) ∧ Below W0.heap.size W0 wr)
  case atStart => exact ⟨0, [], Nat.zero_le _, rfl, by omega, LnOk.nil _, ⟨by simp [itCells], .inl ⟨rfl, rfl⟩⟩, Below.refl _ _⟩
  case round =>
    obtain ⟨k, ys, hk, rfl, hm, hln, hown, hbr⟩ := hrel
    obtain ⟨vA, vcap, rfl, hvc, -⟩ := own_form hown
    have HLN := Lib.hid hln
    have HOW := Lib.hid hown
    have HBR := Lib.hid hbr
    have hp40 := hln.len
    obtain ⟨p, hp⟩ : ∃ p, p = ys.length := ⟨_, rfl⟩
    rw [← hp] at HOW hp40 ⊢
    have HP := Lib.hid hp
    clear hln hown hp hvc
    by_cases hlt : k < ss.length ∧ p < 40
    · obtain ⟨hlt, hp4⟩ := hlt
      obtain ⟨bk, off, hAe, hbk, hI⟩ := HA.out (by omega)
      subst hAe
      have h0k : (0 : Int) ≤ (k : Int) := by omega
      have hki : (k : Int) < (ss.length : Int) := by omega
      have hpi : (p : Int) < 40 := by omega
      have c0 : wr.cell? ⟨bk, off + k, none⟩ = some (.string ss[k]) := by
        rw [HBR.out.cell (by show bk < _; have := HB0.out.size; omega)]
        rw [HB0.out.cell (by show bk < _; exact hbk)]
        exact hI k hlt
      clear hI
      have hxs := HSZ.out k hlt
      unfold maxLen at hxs
      generalize ss[k] = x at *
      have hbs := hbr.size
      clear hbr
      have hx1 : (x.size : Int) ≤ 200 ∨ ¬ (x.size : Int) ≤ 200 := by omega
      obtain ⟨ok0, hok0⟩ : ∃ b : Bool, b = decide ((x.size : Int) ≤ 200) := ⟨_, rfl⟩
      have hoks : decide (x.size ≤ 200) = ok0 := by rw [hok0]; congr 1; simp; omega
      have HOK := Lib.hid hok0
      clear hok0 hx1
      go_wp2_with fail
      go_loopg [7, 8] x.size (fun mm b i wz => ∃ (kk : Nat) (ok : Bool), kk ≤ x.size ∧ b = .bool ok ∧ i = .int .i64 kk ∧ x.size - kk ≤ mm ∧ Hid (ok = true → x.size ≤ 200 ∧ ∀ j (hj : j < x.size), j < kk → (x[j].toNat : Int) ≠ 10) ∧ wz = wr)
      case atStart => exact ⟨0, ok0, Nat.zero_le _, congrArg Value.bool HOK.out.symm, rfl, by omega, Lib.hid fun e => ⟨by have := HOK.out; rw [e] at this; have := of_decide_eq_true this.symm; omega, fun j _ h => absurd h (by omega)⟩, rfl⟩
      case round =>
        obtain ⟨kk, ok, hkk, rfl, rfl, hmm, HR, rfl⟩ := hrel
        by_cases hlt2 : kk < x.size
        · have hkki : (kk : Int) < (x.size : Int) := by omega
          obtain ⟨c, hc⟩ : ∃ c, ((x[kk].toNat : Int) != 10) = c := ⟨_, rfl⟩
          have HC := Lib.hid hc
          cases ok with
          | true =>
            have HR2 := Lib.hid (HR.out rfl)
            clear HR
            go_wp2_with fail
            go_roundg (x.size - (kk + 1))
            case rel =>
              refine ⟨kk + 1, c, by omega, by first | rfl | simp [hc], by go_num, Nat.le_refl _, Lib.hid fun e => ⟨HR2.out.1, fun j hj hjk => ?_⟩, rfl⟩
              by_cases ej : j = kk
              · subst ej
                have := HC.out
                rw [e] at this
                simpa using this
              · exact HR2.out.2 j hj (by omega)
            case measure => omega
          | false =>
            go_wp2_with fail
            go_roundg (x.size - (kk + 1))
            case rel => exact ⟨kk + 1, false, by omega, rfl, by go_num, Nat.le_refl _, Lib.hid fun e => (by cases e), rfl⟩
            case measure => omega
        · obtain rfl : kk = x.size := by omega
          cases ok with
          | false =>
            go_wp2_with fail
            go_roundg (ss.length - (k + 1))
            case rel => exact ⟨k + 1, ys, by omega, by go_num, Nat.le_refl _, HLN.out, by have h := HOW.out; rw [HP.out] at h ⊢; exact h, HBR.out⟩
            case measure => omega
          | true =>
            have hw1 : IntKind.i64.wrap ((p : Int) + 1) = (p : Int) + 1 := IntWalk.i64_in _ (by omega)
            have HW1 := Lib.hid hw1
            clear hw1
            have HY := Lib.hid (HLN.out.snoc (by rw [← HP.out]; exact hp4) (t := x.data.toList) (by rw [← Lib.size_eq]; exact (HR.out rfl).1) (no_ten x (HR.out rfl).2))
            clear HR
            have HXW := Lib.hid ((HBR.out.block xb hs0).trans HX0.out)
            obtain ⟨x0, x1⟩ := O.lab_cells HXW.out
            have hownA : (wr.alloc (.cells #[.int .i64 (IntKind.i64.wrap ((p : Int) + 1)), .int .i64 a0, .int .u64 (a1 : Int), .bool false, .string x, .bool false] 53)).drew.ownsRow W0.heap.size 53 6 (.slice vA p vcap) p (itCells ys) := World.ownsRow.alloc HOW.out _
            have HOA := Lib.hid hownA
            have HNW := Lib.hid (World.news_of_block (w := (wr.alloc (.cells #[.int .i64 (IntKind.i64.wrap ((p : Int) + 1)), .int .i64 a0, .int .u64 (a1 : Int), .bool false, .string x, .bool false] 53)).drew) (heap_alloc_new wr _))
            have H1C : Hid (∀ u ∈ ([.int .i64 (IntKind.i64.wrap ((p : Int) + 1)), .int .i64 a0, .int .u64 (a1 : Int), .bool false, .string x, .bool false] : List Value), u.oneCell' = true) := Lib.hid (by intro u hu; simp at hu; rcases hu with rfl | rfl | rfl | rfl | rfl | rfl <;> rfl)
            clear hownA
            go_wp2_with fail
            go_region_law ((refine step_append_lies _ (by rfl) (.tmp 51) (.tmp 62) 46 (by rfl) W0.heap.size 53 i0 _ 6 56 Tryd.underlying46 hi0 hz0 hz1 hz2 rfl (by decide) (.slice vA p vcap) p (itCells ys) (by rfl) HOA.out ⟨wr.heap.size, 0, none⟩ 1 1 [.int .i64 (IntKind.i64.wrap ((p : Int) + 1)), .int .i64 a0, .int .u64 (a1 : Int), .bool false, .string x, .bool false] (by rfl) rfl HNW.out H1C.out (by omega) (by unfold maxLen; omega) (by omega) (by simp; omega) _ rfl ?_; intro g3 cap3 w4 hown3 hgrow3 hat3 hlt3))
            all_goals
              have hgW : wr.grownBy w4 (Value.slice vA p vcap).ownBlock := ⟨hgrow3.os, hgrow3.tape, hgrow3.output, Nat.le_trans (by simp) hgrow3.size, fun k hk hne => (hgrow3.block k (by simp; omega) hne).trans (Below.heap_alloc wr _ k hk)⟩
              have HB4 := Lib.hid (HBR.out.grown hgW hbs (own_base HOW.out))
              have e1 : itCells ys ++ [.int .i64 (IntKind.i64.wrap ((p : Int) + 1)), .int .i64 a0, .int .u64 (a1 : Int), .bool false, .string x, .bool false] = itCells (ys ++ [(⟨(p : Int) + 1, a0, a1, false, x.data.toList, false⟩ : It)]) := by rw [itCells_snoc, ← str_list x, HW1.out]
              rw [e1] at hown3
              have HO4 := Lib.hid hown3
              clear hgW hgrow3 hat3 hlt3 hown3 e1
              go_wp2_with fail
              go_roundg (ss.length - (k + 1))
              case rel =>
                refine ⟨k + 1, _, by omega, by go_num, Nat.le_refl _, HY.out, ?_, HB4.out⟩
                have hl1 : (ys ++ [(⟨(ys.length : Int) + 1, a0, a1, false, x.data.toList, false⟩ : It)]).length = p + 1 := by simp [HP.out]
                rw [hl1, ← HP.out]
                exact HO4.out
              case measure => omega
    · have HXW := Lib.hid ((HBR.out.block xb hs0).trans HX0.out)
      have HALL := Lib.hid (ln_all HLN.out ha)
      have hin : ItemsIn wr vA ys := items_own (cap := vcap) (by have h := HOW.out; rw [HP.out] at h; exact h)
      have HPN : Hid (PnC vA p vcap (0, 0) (print (0, 0) ys) wr) := Lib.hid (by rw [HP.out]; exact pn_is vA vcap ys (0, 0) (by decide) wr hin (HLN.out.ok ha) (HT.out.later HBR.out))
      have hbl : (prBytes (print (0, 0) ys)).length ≤ 32768 := pr_len
      obtain ⟨bs, hbs⟩ : ∃ bs, bs = prBytes (print (0, 0) ys) := ⟨_, rfl⟩
      have HPA : Hid (∀ (A5 : Option Addr) (cap5 : Nat) (W : World), BytesIn W A5 bs → bs.length ≤ cap5 → Tab W → PaC A5 bs.length cap5 lvQ (0, 0) (parse 16 64 (0, 0) bs) W) := Lib.hid fun A5 cap5 W h1 h2 h3 => pa_is A5 cap5 bs lvQ ⟨none, none, 0, 0, 0, 0, rfl, rfl⟩ (0, 0) (by decide) W h1 h2 (by rw [hbs]; unfold maxLen; omega) h3
      have hPN : Calls Tryd.prog 25 #[.slice vA p vcap, .agg #[.int .i64 0, .int .u64 0]] wr fun e w' => ∃ A' cap', e = .returned (.tuple #[.slice A' bs.length cap', .int .i64 (prErr (print (0, 0) ys) : Int)]) ∧ w'.ownsRow wr.heap.size 5 1 (.slice A' bs.length cap') bs.length (T.byteCells bs) ∧ Below wr.heap.size wr w' := by rw [hbs]; exact HPN.out
      rw [← hbs] at HALL hbl
      obtain ⟨pe, hpe⟩ : ∃ pe : Int, pe = (prErr (print (0, 0) ys) : Int) := ⟨_, rfl⟩
      rw [← hpe] at HALL hPN
      have HPN2 := Lib.hid hPN
      obtain ⟨o, ho⟩ : ∃ o, o = parse 16 64 (0, 0) bs := ⟨_, rfl⟩
      rw [← ho] at HALL HPA
      have HOW2 : Hid (wr.ownsRow W0.heap.size 53 6 (.slice vA p vcap) p (itCells ys)) := HOW
      have hpi0 : (0 : Int) ≤ (p : Int) := by omega
      have HOL : Hid ((psIts o).length ≤ 400) := Lib.hid (by rw [ho]; exact ((parse_len (n0 := 16) (n1 := 64) (fl := (0, 0)) (l := bs)).resolve_right (fun h => h (by decide))).1)
      clear hPN HPN hpe ho hbs hin
      generalize wr = w1 at *
      have HK : Hid (k = ss.length ∨ (k < ss.length ∧ p = 40)) := Lib.hid (by omega)
      clear hlt
      have HR : Hid ((pe = 0 ∧ ((psErr o : Nat) : Int) = 0 ∧ psIts o = ys ∧ ¬ a0 < 0 ∧ ¬ 15 < a0) ∨ (((a0 < 0) ∨ (¬ a0 < 0 ∧ 15 < a0)) ∧ ((pe = 5 ∧ 0 < p) ∨ (pe = 0 ∧ ¬ 0 < p)))) := Lib.hid (by
        have h := HALL.out
        cases hr : L.rightB a0 with
        | true =>
          obtain ⟨h1, h2, h3⟩ := h.1 hr
          simp [L.rightB] at hr
          exact .inl ⟨h1, h2, h3, by omega, by omega⟩
        | false =>
          obtain ⟨h1, h2⟩ := h.2 hr
          rw [← HP.out] at h1 h2
          simp [L.rightB] at hr
          refine .inr ⟨by omega, ?_⟩
          by_cases hz : p = 0
          · exact .inr ⟨h2 hz, by omega⟩
          · exact .inl ⟨h1 (by omega), by omega⟩)
      have hol : (psIts o).length ≤ 400 := HOL.out
      clear HALL
      have HW : Hid ((k = ss.length ∧ (p : Int) = p) ∨ ((k : Int) < (ss.length : Int) ∧ ¬ (p : Int) < 40)) := Lib.hid (by
        rcases HK.out with h | ⟨h, h'⟩
        · exact .inl ⟨h, rfl⟩
        · exact .inr ⟨by omega, by omega⟩)
      clear HK
      rcases HW.out with ⟨hkk, -⟩ | ⟨hkk, hpp⟩
      all_goals try subst hkk
      all_goals
        clear HW
        go_wp2_with fail
        with_reducible refine (HPN2.out).mono ?_
        rintro e w2 ⟨A5, cap5, rfl, hown5, hb5⟩
        have HO5 := Lib.hid hown5
        have HB5 := Lib.hid (HBR.out.trans (hb5.mono HBR.out.size))
        have HOW3 := Lib.hid (own_below HOW2.out hb5)
        clear hown5 hb5 HPN2
        obtain ⟨nb, hnb⟩ : ∃ nb, nb = bs.length := ⟨_, rfl⟩
        rw [← hnb] at HO5 ⊢
        have HNB := Lib.hid hnb
        clear hnb
        go_wp2_with fail
        with_reducible refine (plain_call _).mono ?_
        rintro e w3 ⟨rfl, hb3⟩
        have HB6 := Lib.hid (HB5.out.trans (hb3.mono HB5.out.size))
        have HOW4 := Lib.hid (own_below HOW3.out hb3)
        have hI6 : BytesIn w3 A5 bs ∧ bs.length ≤ cap5 := by
          have h := own_below HO5.out hb3
          rw [HNB.out] at h
          exact bytes_own h
        have hPA : Calls Tryd.prog 31 #[.slice A5 nb cap5, .agg #[.int .i64 16, .int .i64 64, .int .i64 9, .int .i64 0, .int .i64 9, .int .i64 0, .string ⟨#[46, 46, 46]⟩, .slice none 0 0, .slice none 0 0], .agg #[.int .i64 0, .int .u64 0]] w3 fun e w' => ∃ A' cap', e = .returned (.tuple #[.slice A' (psIts o).length cap', .int .i64 (psLine o : Int), .int .i64 (psErr o : Int)]) ∧ w'.ownsRow w3.heap.size 53 6 (.slice A' (psIts o).length cap') (psIts o).length (itCells (psIts o)) ∧ Below w3.heap.size w3 w' := by
          rw [HNB.out]
          exact HPA.out A5 cap5 w3 hI6.1 hI6.2 (HT.out.later HB6.out)
        have HPA2 := Lib.hid hPA
        clear hb3 HO5 hI6 hPA HPA HOW3
        go_wp2_with fail
        with_reducible refine (HPA2.out).mono ?_
        rintro e w4 ⟨A7, cap7, rfl, hown7, hb7⟩
        have HB7 := Lib.hid (HB6.out.trans (hb7.mono HB6.out.size))
        have HOW5 := Lib.hid (own_below HOW4.out hb7)
        have HO7 := Lib.hid hown7
        obtain ⟨x0, x1⟩ := O.lab_cells ((HB7.out.block xb hs0).trans HX0.out)
        have HLV := Lib.hid (live4 w4 (HT.out.later HB7.out))
        clear hb7 hown7 HPA2 HOW4 HB6 HB5
        generalize ((psErr o : Nat) : Int) = ge at *
        generalize ((psLine o : Nat) : Int) = gl at *
        generalize psIts o = its at *
        rcases HR.out with ⟨rfl, rfl, rfl, hlo, hhi⟩ | ⟨hw, hz⟩
        · clear HR
          rw [← HP.out] at HO7 ⊢
          go_wp2_with fail
          with_reducible refine (HLV.out).mono ?_
          rintro e w5 ⟨rfl, hb5⟩
          have HSM : Hid (SmC A7 vA p cap7 vcap w5) := Lib.hid (by
            have h1 := own_below HO7.out hb5
            have h2 := own_below HOW5.out hb5
            rw [HP.out] at h1 h2 ⊢
            exact same_any A7 vA cap7 vcap its w5 (by rw [← HP.out]; omega) (items_own h1) (items_own h2))
          have HB8 := Lib.hid (HB7.out.trans (hb5.mono HB7.out.size))
          clear hb5 HLV
          go_wp2_with fail
          with_reducible refine (HSM.out.call).mono ?_
          rintro e w6 ⟨rfl, hb6⟩
          have HB9 := Lib.hid (HB0.out.trans ((HB8.out.trans (hb6.mono HB8.out.size)).mono HB0.out.size))
          clear hb6 HSM
          go_wp2_with fail
          go_ret
          exact ⟨rfl, HB9.out⟩
        · clear HR
          rcases hw with hlo | ⟨hlo, hhi⟩ <;> rcases hz with ⟨rfl, hp0⟩ | ⟨rfl, hp0⟩
          all_goals try (exfalso; omega)
          all_goals
            go_wp2_with fail
            with_reducible refine (HLV.out).mono ?_
            rintro e w5 ⟨rfl, hb5⟩
            have HB8 := Lib.hid (HB0.out.trans ((HB7.out.trans (hb5.mono HB7.out.size)).mono HB0.out.size))
            clear hb5 HLV
            go_wp2_with fail
            go_ret
            exact ⟨rfl, HB8.out⟩
end Go.Proofs.YtadhhamfikpimaaDoor.I
