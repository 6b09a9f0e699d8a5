/-
  The reference's line (layer 3), whatever it is: it comes to what take says.
  The contract of the reference's Lines: for all bytes of at most 2^22.
  The reference's Parse (layer 3): whatever bytes it is handed, it comes to what readAll says.
  The law PolicyParses, walked: it returns true for every bytes, where the library's table of powers of ten holds what its text lays.
-/
import Derived.Test.YtadhhamfikpimaaDoorGq
import Derived.Test.YtadhhamfikpimaaDoorGg
import Derived.Test.YtadhhamfikpimaaDoorGl
import Derived.Test.YtadhhamfikpimaaDoorGh
import Derived.Deep.DeepCutAuto
import Derived.Test.YtadhhamfikpimaaDoorGj
import Derived.Test.YtadhhamfikpimaaDoorGm
namespace Go.Proofs.YtadhhamfikpimaaDoor.O
set_option linter.unusedVariables false
set_option linter.unusedSimpArgs false
open Go.RowKit
open T
variable {w : World} {base sb : Nat} {s : St} {uv fv : Value}

theorem rps_some {wd : List UInt8} (hl : wd.length ≤ 8192) {n c : Nat} (hp : L.parse wd = some (n, c)) : RPs ⟨wd.toArray⟩ (n : Int) c true := fun w => by
  have := L.refParse_any ⟨wd.toArray⟩ w (by rw [list_size]; omega)
  rw [list_data, hp] at this
  exact this
theorem rps_none {wd : List UInt8} (hl : wd.length ≤ 8192) (hp : L.parse wd = none) : RPs ⟨wd.toArray⟩ 0 0 false := fun w => by
  have := L.refParse_any ⟨wd.toArray⟩ w (by rw [list_size]; omega)
  rw [list_data, hp] at this
  exact this
theorem word_len {l : List UInt8} {ws : List (List UInt8)} (hws : P.words [] l = ws) (hl : l.length ≤ 8192) (j : Nat) (hj : j < ws.length) : ws[j].length ≤ 8192 := by
  subst hws
  have := words_len l [] _ (List.getElem_mem hj)
  simp only [List.length_nil, Nat.zero_add] at this
  omega

theorem user_part (h : Sd w base sb s uv fv) (x : ByteArray) (hx : x.size ≤ 8192) (ws : List (List UInt8)) (hws : P.words [] x.data.toList = ws) (hlen : 2 ≤ ws.length) (hz : ws[0]'(by omega) = kUser) (HNK : Hid (∀ j, j < 7 → keys.getD j [] ≠ kUser)) (hul : s.p.us.length ≤ maxLen) :
    Calls Tryd.prog 38 #[.pointer (some ⟨sb, 0, none⟩), .string x] w (RlEnd w base sb (takeUser s ws)) := by
  have hxl : x.data.toList.length ≤ 8192 := by rw [← Lib.size_eq]; exact hx
  by_cases h3' : ws.length < 3
  · rw [takeUser_short s ws h3']
    exact (rline_user_short h x hx ws kUser hws hlen hz HNK rfl h3').mono fun e w' he => ⟨he.1, (he.2.mono h.size).bx⟩
  have h3 : 3 ≤ ws.length := by omega
  have hl1 := word_len hws hxl 1 (by omega)
  have hl2 := word_len hws hxl 2 (by omega)
  cases h0 : s.once.getD 0 false with
  | false =>
    rw [takeUser_nolab s ws h3 (labelFor_unsaid s _ (.inl h0))]
    exact (rline_user_lev h x hx ws kUser hws hlen hz HNK rfl h3 h0).mono fun e w' he => ⟨he.1, (he.2.mono h.size).bx⟩
  | true =>
    cases h1 : s.once.getD 1 false with
    | false =>
      rw [takeUser_nolab s ws h3 (labelFor_unsaid s _ (.inr h1))]
      exact (rline_user_cat h x hx ws kUser hws hlen hz HNK rfl h3 h0 h1).mono fun e w' he => ⟨he.1, (he.2.mono h.size).bx⟩
    | true =>
      cases hnm : P.name (ws[1]'(by omega)) with
      | false =>
        rw [takeUser_noname s ws h3 hnm]
        exact (rline_user_name h x hx ws kUser hws hlen hz HNK rfl h3 h0 h1 hl1 hnm).mono fun e w' he => ⟨he.1, (he.2.mono h.size).bx⟩
      | true =>
        cases hp : L.parse (ws[2]'(by omega)) with
        | none =>
          have e : labelFor s (ws[2]'(by omega)) = none := by
            unfold labelFor
            rw [hp]
            split <;> rfl
          rw [takeUser_nolab s ws h3 e]
          exact rline_user_nolab h x hx ws kUser hws hlen hz HNK rfl h3 h0 h1 hl1 hnm 0 0 (Lib.hid (rps_none hl2 hp))
        | some a =>
          obtain ⟨n, c⟩ := a
          have hk := (L.print_parse hp).2.1
          cases hf : fitsB (s.p.ns.getD 0 0) (s.p.ns.getD 1 0) (n : Int) c with
          | false =>
            have e : labelFor s (ws[2]'(by omega)) = none := by
              unfold labelFor
              rw [if_pos ⟨h0, h1⟩, hp]
              show (if s.p.fits (n : Int) c then _ else _) = _
              rw [if_neg (by unfold Pol.fits; rw [hf]; decide)]
            rw [takeUser_nolab s ws h3 e]
            exact rline_user_nofit h x hx ws kUser hws hlen hz HNK rfl h3 h0 h1 hl1 hnm n c hk (Lib.hid (rps_some hl2 hp)) (Lib.hid hf)
          | true =>
            have e : labelFor s (ws[2]'(by omega)) = some (n, c) := by
              unfold labelFor
              rw [if_pos ⟨h0, h1⟩, hp]
              show (if s.p.fits (n : Int) c then _ else _) = _
              rw [if_pos (by unfold Pol.fits; rw [hf])]
            exact rline_user_lab h x hx ws kUser hws hlen hz HNK rfl h3 h0 h1 hl1 hnm n c hk (Lib.hid (rps_some hl2 hp)) (Lib.hid hf) (Lib.hid e) hul

theorem floor_part (h : Sd w base sb s uv fv) (x : ByteArray) (hx : x.size ≤ 8192) (ws : List (List UInt8)) (hws : P.words [] x.data.toList = ws) (hlen : 2 ≤ ws.length) (hz : ws[0]'(by omega) = kFloor) (HNK : Hid (∀ j, j < 7 → keys.getD j [] ≠ kFloor)) (hul : s.p.fs.length ≤ maxLen) :
    Calls Tryd.prog 38 #[.pointer (some ⟨sb, 0, none⟩), .string x] w (RlEnd w base sb (takeFloor s ws)) := by
  have hxl : x.data.toList.length ≤ 8192 := by rw [← Lib.size_eq]; exact hx
  by_cases h3' : ws.length < 3
  · rw [takeFloor_short s ws h3']
    exact (rline_floor_short h x hx ws kFloor hws hlen hz HNK rfl h3').mono fun e w' he => ⟨he.1, (he.2.mono h.size).bx⟩
  have h3 : 3 ≤ ws.length := by omega
  have hl1 := word_len hws hxl 1 (by omega)
  have hl2 := word_len hws hxl 2 (by omega)
  cases h0 : s.once.getD 0 false with
  | false =>
    rw [takeFloor_nolab s ws h3 (labelFor_unsaid s _ (.inl h0))]
    exact (rline_floor_lev h x hx ws kFloor hws hlen hz HNK rfl h3 h0).mono fun e w' he => ⟨he.1, (he.2.mono h.size).bx⟩
  | true =>
    cases h1 : s.once.getD 1 false with
    | false =>
      rw [takeFloor_nolab s ws h3 (labelFor_unsaid s _ (.inr h1))]
      exact (rline_floor_cat h x hx ws kFloor hws hlen hz HNK rfl h3 h0 h1).mono fun e w' he => ⟨he.1, (he.2.mono h.size).bx⟩
    | true =>
      cases hnm : P.name (ws[1]'(by omega)) with
      | false =>
        rw [takeFloor_noname s ws h3 hnm]
        exact (rline_floor_name h x hx ws kFloor hws hlen hz HNK rfl h3 h0 h1 hl1 hnm).mono fun e w' he => ⟨he.1, (he.2.mono h.size).bx⟩
      | true =>
        cases hp : L.parse (ws[2]'(by omega)) with
        | none =>
          have e : labelFor s (ws[2]'(by omega)) = none := by
            unfold labelFor
            rw [hp]
            split <;> rfl
          rw [takeFloor_nolab s ws h3 e]
          exact rline_floor_nolab h x hx ws kFloor hws hlen hz HNK rfl h3 h0 h1 hl1 hnm 0 0 (Lib.hid (rps_none hl2 hp))
        | some a =>
          obtain ⟨n, c⟩ := a
          have hk := (L.print_parse hp).2.1
          cases hf : fitsB (s.p.ns.getD 0 0) (s.p.ns.getD 1 0) (n : Int) c with
          | false =>
            have e : labelFor s (ws[2]'(by omega)) = none := by
              unfold labelFor
              rw [if_pos ⟨h0, h1⟩, hp]
              show (if s.p.fits (n : Int) c then _ else _) = _
              rw [if_neg (by unfold Pol.fits; rw [hf]; decide)]
            rw [takeFloor_nolab s ws h3 e]
            exact rline_floor_nofit h x hx ws kFloor hws hlen hz HNK rfl h3 h0 h1 hl1 hnm n c hk (Lib.hid (rps_some hl2 hp)) (Lib.hid hf)
          | true =>
            have e : labelFor s (ws[2]'(by omega)) = some (n, c) := by
              unfold labelFor
              rw [if_pos ⟨h0, h1⟩, hp]
              show (if s.p.fits (n : Int) c then _ else _) = _
              rw [if_pos (by unfold Pol.fits; rw [hf])]
            exact rline_floor_lab h x hx ws kFloor hws hlen hz HNK rfl h3 h0 h1 hl1 hnm n c hk (Lib.hid (rps_some hl2 hp)) (Lib.hid hf) (Lib.hid e) hul

theorem rline_any (h : Sd w base sb s uv fv) (x : ByteArray) (hx : x.size ≤ 8192) (h0 : ¬ (x.data.toList = [] ∨ x.data.toList.head? = some 35)) (hul : s.p.us.length ≤ maxLen) (hfl : s.p.fs.length ≤ maxLen) :
    Calls Tryd.prog 38 #[.pointer (some ⟨sb, 0, none⟩), .string x] w (RlEnd w base sb (take s x.data.toList)) := by
  rcases Nat.lt_or_ge (P.words [] x.data.toList).length 2 with hs | hs
  · rw [take_short h0 hs]
    exact (rline_short x w _ hx hs).mono fun e w' he => ⟨he.1, (he.2.mono h.size).bx⟩
  obtain ⟨a0, a1, rest, hws⟩ : ∃ a0 a1 rest, P.words [] x.data.toList = a0 :: a1 :: rest := by
    match hw : P.words [] x.data.toList with
    | [] => rw [hw] at hs; simp at hs
    | [_] => rw [hw] at hs; simp at hs
    | a :: b :: r => exact ⟨a, b, r, rfl⟩
  by_cases hk : ∃ kk, kk < 7 ∧ keys.getD kk [] = a0
  · obtain ⟨kk, hkk, hkey⟩ := hk
    rw [take_key h0 hws kk hkk hkey]
    obtain ⟨r, e1, -⟩ := words_cut x.data.toList [] a0 (a1 :: rest) hws (by simp)
    refine (rline_key h x hx a0 a1 rest hws (by rw [Lib.size_eq, ← List.nil_append x.data.toList, e1]; simp) kk hkk hkey).mono fun e w' he => ?_
    cases ho : plLine s kk (x.data.toList.drop (a0.length + 1)) with
    | none => rw [ho] at he; exact he
    | some t => rw [ho] at he; exact ⟨he.1, ⟨uv, fv, he.2.1⟩, he.2.2⟩
  have HNK : Hid (∀ j, j < 7 → keys.getD j [] ≠ a0) := Lib.hid fun j hj e => hk ⟨j, hj, e⟩
  by_cases hu : a0 = kUser
  · subst hu
    rw [take_user h0 hws]
    exact user_part h x hx _ hws (by simp) rfl HNK hul
  by_cases hf : a0 = kFloor
  · subst hf
    rw [take_floor h0 hws]
    exact floor_part h x hx _ hws (by simp) rfl HNK hfl
  rw [take_other h0 hws (fun j hj e => hk ⟨j, hj, e⟩) hu hf]
  exact (rline_other h x hx _ a0 hws (by simp) rfl HNK hu hf).mono fun e w' he => ⟨he.1, (he.2.mono h.size).bx⟩
end Go.Proofs.YtadhhamfikpimaaDoor.O

namespace Go.Proofs.YtadhhamfikpimaaDoor.T
open Go.RowKit

theorem lines_nl {l cur : List UInt8} {k : Nat} (hk : k < l.length) (h : l[k].toNat = 10) : P.lines cur (l.drop k) = (cur, false) :: P.lines [] (l.drop (k + 1)) := by
  rw [List.drop_eq_getElem_cons hk, P.lines, if_pos (UInt8.toNat_inj.1 h)]
theorem lines_more {l cur : List UInt8} {k : Nat} (hk : k < l.length) (h : ¬ l[k].toNat = 10) : P.lines cur (l.drop k) = P.lines (cur ++ [l[k]]) (l.drop (k + 1)) := by
  rw [List.drop_eq_getElem_cons hk, P.lines, if_neg (fun e => h (by rw [e]; rfl))]

set_option maxHeartbeats 1000000 in
set_option maxRecDepth 100000 in
theorem refLines_any (A : Option Addr) (cap : Nat) (l : List UInt8) (w : World) (hA : BytesIn w A l) (hn : l.length ≤ cap) (hl : l.length ≤ 4194304) :
    Calls Tryd.prog 37 #[.slice A l.length cap] w fun e w' => ∃ v, e = .returned v ∧ w'.ownsRow w.heap.size 51 2 v (P.lines [] l).length (lineCells (P.lines [] l)) ∧ Below w.heap.size w w' := by
  obtain ⟨i0, hi0, hz0, hz1, hz2⟩ := info_parts infoLine
  have HA := Lib.hid hA
  clear hA
  go_enter Tryd.func37, Tryd.ntmps37
  go_wp2_with fail
  go_loopg [3, 4, 5, 6] l.length (fun n v nw op i wr => ∃ (k : Nat) (xs : List (List UInt8 × Bool)) (cur : List UInt8) (o : Bool), k ≤ l.length ∧ i = .int .i64 k ∧ l.length - k ≤ n ∧ xs.length ≤ k ∧ cur.length ≤ k ∧ nw = .string ⟨cur.toArray⟩ ∧ op = .bool o ∧ Hid (o = !cur.isEmpty) ∧ wr.ownsRow w.heap.size 51 2 v xs.length (lineCells xs) ∧ Below w.heap.size w wr ∧ Hid (P.lines [] l = xs ++ P.lines cur (l.drop k)))
  case atStart => exact ⟨0, [], [], false, Nat.zero_le _, rfl, by omega, Nat.le_refl _, Nat.le_refl _, rfl, rfl, Lib.hid rfl, ⟨by simp [lineCells], .inr ⟨w.heap.size, 0, #[], rfl, Nat.le_refl _, heap_alloc_new w _, Nat.le_refl _, by simp [maxLen], rfl, rfl⟩⟩, (Below.refl _ _).alloc (Nat.le_refl _) _, Lib.hid rfl⟩
  case round =>
    obtain ⟨k, xs, cur, o, hk, rfl, hkn, hxs, hcur, rfl, rfl, HO, hown, hbel, HR⟩ := hrel
    by_cases hlt : k < l.length
    · obtain ⟨bk, off, hAe, hbk, hB⟩ := HA.out (by omega)
      subst hAe
      have hcell := (hbel.cell (p := ⟨bk, off + k, none⟩) hbk).trans (hB k hlt)
      have h0k : (0 : Int) ≤ (k : Int) := Int.natCast_nonneg _
      have h1k : (k : Int) < (l.length : Int) := by omega
      by_cases h10 : (l[k].toNat : Int) = 10
      · have hb10 : ((l[k].toNat : Int) == 10) = true := by simp [h10]
        have HN := Lib.hid (HR.out.trans (by rw [lines_nl hlt (by omega)] : _ = xs ++ (cur, false) :: P.lines [] (l.drop (k + 1))))
        clear h10 HR hB HO
        go_wp2_with (at_builtin; refine wpList_append_own _ rfl (.tmp 19) (.tmp 22) 64 rfl w.heap.size 51 i0 _ 2 24 Tryd.underlying64 hi0 hz0 hz1 hz2 rfl (by decide) _ xs.length (lineCells xs) rfl (hown.alloc _) ⟨wr.heap.size, 0, none⟩ 1 1 [.string ⟨cur.toArray⟩, .bool false] rfl rfl ?c1 ?c2 ?c3 ?c4 ?c5 ?_)
        case c1 => exact cell_two_new _ _ _ _
        case c2 => intro u hu; simp at hu; rcases hu with rfl | rfl <;> rfl
        case c3 => simp only [maxLen]; omega
        case c4 => omega
        case c5 => have := hbel.size; simp; omega
        intro v' w1 hown1 hg1 _
        have hbel1 : Below w.heap.size w w1 := (hbel.alloc hbel.size _).grown hg1 (by have := hbel.size; simp; omega) (own_base hown)
        rw [← lineCells_snoc] at hown1
        have hl1 : (xs ++ [(cur, false)]).length = xs.length + 1 := by simp
        rw [← hl1] at hown1
        clear hl1 hown hcell
        go_wp2_with fail
        go_roundg (l.length - (k + 1))
        case measure => omega
        case rel => exact ⟨k + 1, xs ++ [(cur, false)], [], false, by omega, by go_num, Nat.le_refl _, by simp; omega, by simp, rfl, rfl, Lib.hid rfl, hown1, hbel1, Lib.hid (by rw [HN.out]; simp)⟩
      · have hb10 : ((l[k].toNat : Int) == 10) = false := by simp [h10]
        have HN := Lib.hid (HR.out.trans (by rw [lines_more hlt (fun e => h10 (by omega))] : _ = xs ++ P.lines (cur ++ [l[k]]) (l.drop (k + 1))))
        have hcv := conv_bytes wr bk (off + k) 1 (cap - k) [l[k]] rfl (by
          intro j hj
          obtain rfl : j = 0 := by simpa using hj
          exact hcell)
        clear h10 HR hB HO
        generalize l[k] = c at *
        have hw : IntKind.i64.wrap ((k : Int) + 1) = (k : Int) + 1 := IntWalk.i64_in _ (by omega)
        have HE := Lib.hid (show (⟨cur.toArray⟩ : ByteArray) ++ ⟨[c].toArray⟩ = ⟨(cur ++ [c]).toArray⟩ from str_append cur [c])
        have hadd : (⟨cur.toArray⟩ : ByteArray).size + (⟨[c].toArray⟩ : ByteArray).size ≤ 9223372036854775807 := by
          rw [list_size]; show cur.length + 1 ≤ _; omega
        go_wp2_with fail
        go_roundg (l.length - (k + 1))
        case measure => omega
        case rel => exact ⟨k + 1, xs, cur ++ [c], true, by omega, by go_num, Nat.le_refl _, by omega, by simp; omega, by rw [HE.out], rfl, Lib.hid (by simp), hown, hbel, HN⟩
    · obtain rfl : k = l.length := by omega
      cases o with
      | false =>
        have hc : cur = [] := by
          have := HO.out
          simpa using this
        have HN := Lib.hid (HR.out.trans (by rw [List.drop_length, P.lines, if_pos hc, List.append_nil] : _ = xs))
        go_wp2_with fail
        go_ret
        exact ⟨_, rfl, by rw [HN.out]; exact hown, hbel⟩
      | true =>
        have hc : ¬ cur = [] := by
          have := HO.out
          simpa using this
        have HN := Lib.hid (HR.out.trans (by rw [List.drop_length, P.lines, if_neg hc] : _ = xs ++ [(cur, true)]))
        clear hc HR HO
        go_wp2_with (at_builtin; refine wpList_append_own _ rfl (.tmp 33) (.tmp 36) 64 rfl w.heap.size 51 i0 _ 2 24 Tryd.underlying64 hi0 hz0 hz1 hz2 rfl (by decide) _ xs.length (lineCells xs) rfl (hown.alloc _) ⟨wr.heap.size, 0, none⟩ 1 1 [.string ⟨cur.toArray⟩, .bool true] rfl rfl ?c1 ?c2 ?c3 ?c4 ?c5 ?_)
        case c1 => exact cell_two_new _ _ _ _
        case c2 => intro u hu; simp at hu; rcases hu with rfl | rfl <;> rfl
        case c3 => simp only [maxLen]; omega
        case c4 => omega
        case c5 => have := hbel.size; simp; omega
        intro v' w1 hown1 hg1 _
        have hbel1 : Below w.heap.size w w1 := (hbel.alloc hbel.size _).grown hg1 (by have := hbel.size; simp; omega) (own_base hown)
        rw [← lineCells_snoc] at hown1
        have hl1 : (xs ++ [(cur, true)]).length = xs.length + 1 := by simp
        rw [← hl1] at hown1
        clear hl1 hown
        go_wp2_with fail
        go_ret
        exact ⟨_, rfl, by rw [HN.out]; exact hown1, hbel1⟩
end Go.Proofs.YtadhhamfikpimaaDoor.T

namespace Go.Proofs.YtadhhamfikpimaaDoor.O
set_option linter.unusedVariables false
set_option linter.unusedSimpArgs false
open Go.RowKit
open T

def RLn (l : List UInt8) : Prop := ∀ (A : Option Addr) (cap : Nat) (w : World), BytesIn w A l → l.length ≤ cap →
  Calls Tryd.prog 37 #[.slice A l.length cap] w fun e w' => ∃ v, e = .returned v ∧ w'.ownsRow w.heap.size 51 2 v (P.lines [] l).length (lineCells (P.lines [] l)) ∧ Below w.heap.size w w'
theorem RLn.call {l : List UInt8} (h : RLn l) (A : Option Addr) (cap : Nat) (w : World) (hA : BytesIn w A l) (hc : l.length ≤ cap) :
    Calls Tryd.prog 37 #[.slice A l.length cap] w fun e w' => ∃ v, e = .returned v ∧ w'.ownsRow w.heap.size 51 2 v (P.lines [] l).length (lineCells (P.lines [] l)) ∧ Below w.heap.size w w' := h A cap w hA hc

set_option maxRecDepth 100000 in
set_option maxHeartbeats 2000000 in
theorem rparse_long (A : Option Addr) (cap n : Nat) (w : World) (h : 8192 < n) (hn : n ≤ maxLen) :
    Calls Tryd.prog 13 #[.slice A n cap] w fun e w' => e = .returned (.tuple #[.agg zeroPol, .int .i64 0, .int .i64 4]) ∧ Below w.heap.size w w' := by
  have h' : 8192 < (n : Int) := by omega
  go_enter Tryd.func13, Tryd.ntmps13
  go_upto_region 2 with fail
  obtain ⟨W0, hW0⟩ : ∃ W0 : World, W0 = w.alloc (.cells #[.int .i64 0, .int .i64 0, .int .i64 0, .int .i64 0, .int .i64 0, .int .i64 0, .string ⟨#[]⟩, .slice none 0 0, .slice none 0 0] 26) := ⟨_, rfl⟩
  have HPz := Lib.hid (show W0.heap[w.heap.size]? = some (.cells zeroPol 26 (0, 0)) by rw [hW0]; exact heap_alloc_new w _)
  have HB0 := Lib.hid (show Below w.heap.size w W0 by rw [hW0]; exact (Below.refl _ _).alloc (Nat.le_refl _) _)
  rw [← hW0]
  clear hW0
  obtain ⟨rb, hrb⟩ : ∃ rb, rb = w.heap.size := ⟨_, rfl⟩
  rw [← hrb] at HPz HB0 ⊢
  have HRB := Lib.hid hrb
  clear hrb
  obtain ⟨p0, p1, p2, p3, p4, p5, p6, p7, p8⟩ := zero_cells HPz.out
  have z0 := L.blk_free HPz.out 0
  have z1 := L.blk_free HPz.out 1
  have z2 := L.blk_free HPz.out 2
  have z3 := L.blk_free HPz.out 3
  have z4 := L.blk_free HPz.out 4
  have z5 := L.blk_free HPz.out 5
  have z6 := L.blk_free HPz.out 6
  have z7 := L.blk_free HPz.out 7
  have z8 := L.blk_free HPz.out 8
  have HZ := Lib.hid (stored9 (pb := rb) (.int .i64 0) (.int .i64 0) (.int .i64 0) (.int .i64 0) (.int .i64 0) (.int .i64 0) (.string ⟨#[]⟩) (.slice none 0 0) (.slice none 0 0) HPz.out)
  go_wp2_with fail
  clear p0 p1 p2 p3 p4 p5 p6 p7 p8 z0 z1 z2 z3 z4 z5 z6 z7 z8
  obtain ⟨W9, hW9⟩ : ∃ W9 : World, W9 = (((((((((W0.setCell ⟨rb, 0, none⟩ (.int .i64 0)).setCell ⟨rb, 1, none⟩ (.int .i64 0)).setCell ⟨rb, 2, none⟩ (.int .i64 0)).setCell ⟨rb, 3, none⟩ (.int .i64 0)).setCell ⟨rb, 4, none⟩ (.int .i64 0)).setCell ⟨rb, 5, none⟩ (.int .i64 0)).setCell ⟨rb, 6, none⟩ (.string ⟨#[]⟩)).setCell ⟨rb, 7, none⟩ (.slice none 0 0)).setCell ⟨rb, 8, none⟩ (.slice none 0 0)) := ⟨_, rfl⟩
  rw [← hW9] at HZ ⊢
  clear hW9
  obtain ⟨p0, p1, p2, p3, p4, p5, p6, p7, p8⟩ := pol_cells HZ.out.now
  refine bodyPost_ret (v := .tuple #[.agg zeroPol, .int .i64 0, .int .i64 4]) (by simp [results, Tryd.results13, go_sem, zeroPol, p0, p1, p2, p3, p4, p5, p6, p7, p8]) rfl ⟨rfl, ?_⟩
  rw [← HRB.out]
  exact HB0.out.trans (HZ.out.below rb (Nat.le_refl _))

theorem bx_cell {a b : World} {base sb g i : Nat} (h : Bx base sb a b) (hg : g < base) (hn : g ≠ sb) : b.cell? ⟨g, i, none⟩ = a.cell? ⟨g, i, none⟩ := by simp [World.cell?, h.block g hg hn]
theorem Bx.low {a b : World} {base sb B : Nat} (h : Bx base sb a b) (h1 : B ≤ base) (h2 : B ≤ sb) : Below B a b := ⟨h.os, h.tape, h.output, h.size, fun k hk => h.block k (by omega) (by omega)⟩
theorem once_cell (p : Pol) (o : List Bool) (uv fv : Value) {j : Nat} (ho : o.length = 7) (hj : j < 7) : (sdCells p o uv fv)[9 + j]? = some (.bool (o.getD j false)) := by
  match o, ho with
  | [a, b, c, d, e, g, i], _ =>
    match j, hj with
    | 0, _ => rfl
    | 1, _ => rfl
    | 2, _ => rfl
    | 3, _ => rfl
    | 4, _ => rfl
    | 5, _ => rfl
    | 6, _ => rfl
theorem all_once {o : List Bool} (ho : o.length = 7) (h : ∀ i, i < 7 → o.getD i false = true) : o.all id = true := by
  match o, ho with
  | [a, b, c, d, e, g, i], _ =>
    have h0 := h 0 (by omega)
    have h1 := h 1 (by omega)
    have h2 := h 2 (by omega)
    have h3 := h 3 (by omega)
    have h4 := h 4 (by omega)
    have h5 := h 5 (by omega)
    have h6 := h 6 (by omega)
    simp at h0 h1 h2 h3 h4 h5 h6
    simp [h0, h1, h2, h3, h4, h5, h6]
theorem not_once {o : List Bool} {j : Nat} (ho : o.length = 7) (hj : j < 7) (h : o.getD j false = false) : o.all id = false := by
  rw [List.all_eq_false]
  refine ⟨o[j]'(by omega), List.getElem_mem _, ?_⟩
  rw [List.getD_eq_getElem?_getD, List.getElem?_eq_getElem (by omega)] at h
  simp at h
  simp [h]
theorem addUser_len {s t : St} {nm lb : List UInt8} {ad : Bool} (h : addUser s nm lb ad = some t) : t.p.us.length ≤ 32 ∧ t.p.fs = s.p.fs := by
  unfold addUser at h
  split at h
  · rename_i hc
    obtain ⟨a, _, rfl⟩ := Option.map_eq_some_iff.1 h
    refine ⟨?_, rfl⟩
    simp
    omega
  · cases h
theorem take_len {s t : St} {l : List UInt8} (h : take s l = some t) (hu : s.p.us.length ≤ 32) (hf : s.p.fs.length ≤ 32) : t.p.us.length ≤ 32 ∧ t.p.fs.length ≤ 32 := by
  unfold take at h
  split at h
  · injection h with h; subst h; exact ⟨hu, hf⟩
  split at h
  · unfold takeHidden at h
    split at h
    · injection h with h; subst h; exact ⟨hu, hf⟩
    · cases h
  split at h
  · unfold takeUser at h
    split at h
    · have := addUser_len h; exact ⟨this.1, by rw [this.2]; exact hf⟩
    · split at h
      · have := addUser_len h; exact ⟨this.1, by rw [this.2]; exact hf⟩
      · cases h
    · cases h
  split at h
  · unfold takeFloor at h
    split at h
    · split at h
      · rename_i hc
        obtain ⟨a, _, rfl⟩ := Option.map_eq_some_iff.1 h
        exact ⟨hu, by simp; omega⟩
      · cases h
    · cases h
  · unfold takeNumber at h
    split at h
    · obtain ⟨k, _, hk⟩ := Option.bind_eq_some_iff.1 h
      unfold numLine at hk
      split at hk
      · cases hk
      · obtain ⟨n, _, hn⟩ := Option.bind_eq_some_iff.1 hk
        split at hn
        · injection hn with hn; subst hn; exact ⟨hu, hf⟩
        · cases hn
    · cases h
/-- What the reference's Parse has laid ahead of the lines. -/
theorem rlaid (w : World) (a b : Obj) : ((w.alloc a).alloc b).heap[w.heap.size]? = some a ∧ ((w.alloc a).alloc b).heap[w.heap.size + 1]? = some b ∧ Below w.heap.size w ((w.alloc a).alloc b) ∧ ((w.alloc a).alloc b).heap.size = w.heap.size + 2 := by
  obtain ⟨h1, h2⟩ := two_blocks' w a b
  exact ⟨(Below.heap_alloc (w.alloc a) b _ (by simp)).trans (heap_alloc_new w a), h1, h2, by simp⟩
theorem empty_of_size {x : ByteArray} (h : x.size = 0) : x = ⟨#[]⟩ := by
  obtain ⟨a⟩ := x
  have : a.size = 0 := h
  rw [Array.eq_empty_of_size_eq_zero this]

set_option maxRecDepth 100000 in
set_option maxHeartbeats 8000000 in
theorem rparse_short (A : Option Addr) (cap : Nat) (l : List UInt8) (w : World) (hA : BytesIn w A l) (hc : l.length ≤ cap) (h : l.length ≤ 8192) :
    Calls Tryd.prog 13 #[.slice A l.length cap] w (ReadEnd w (readAll (P.lines [] l))) := by
  have hLN : RLn l := fun A cap w hA hc => refLines_any A cap l w hA hc (by omega)
  obtain ⟨hfew, hshort⟩ := lines_few h
  have HLN := Lib.hid hLN
  have h' : ¬ 8192 < (l.length : Int) := by omega
  obtain ⟨W0, hW0⟩ : ∃ W0 : World, W0 = (w.alloc (.cells zeroPol 26)).alloc (.cells #[.int .i64 0, .int .i64 0, .int .i64 0, .int .i64 0, .int .i64 0, .int .i64 0, .string ⟨#[]⟩, .slice none 0 0, .slice none 0 0, .bool false, .bool false, .bool false, .bool false, .bool false, .bool false, .bool false] 69) := ⟨_, rfl⟩
  obtain ⟨hp0, hs0, hb0, hz0⟩ := rlaid w (.cells zeroPol 26) (.cells #[.int .i64 0, .int .i64 0, .int .i64 0, .int .i64 0, .int .i64 0, .int .i64 0, .string ⟨#[]⟩, .slice none 0 0, .slice none 0 0, .bool false, .bool false, .bool false, .bool false, .bool false, .bool false, .bool false] 69)
  rw [← hW0] at hp0 hs0 hb0 hz0
  have HA := Lib.hid (hA.below hb0)
  have HP0 := Lib.hid hp0
  have HS0 := Lib.hid hs0
  have HB0 := Lib.hid hb0
  have HZ0 := Lib.hid hz0
  unfold zeroPol at hW0
  clear hp0 hs0 hb0 hz0 hA hLN
  go_enter Tryd.func13, Tryd.ntmps13
  go_wp2_with fail
  rw [← hW0]
  clear hW0
  with_reducible refine (HLN.out.call _ _ _ HA.out hc).mono ?_
  rintro e w1 ⟨v1, rfl, hown, hb1⟩
  obtain ⟨A1, cap1, hv, -, hcells⟩ := own_form hown
  subst hv
  have HSD : Hid (Sd w1 w1.heap.size (w.heap.size + 1) St.start (.slice none 0 0) (.slice none 0 0)) := Lib.hid ⟨Nat.le_refl _, (hb1.block _ (by rw [HZ0.out]; omega)).trans HS0.out, ⟨by simp [usrCells, St.start, Pol.none], .inl ⟨rfl, rfl⟩⟩, ⟨by simp [flrCells, St.start, Pol.none], .inl ⟨rfl, rfl⟩⟩, rfl, rfl⟩
  have HP1 := Lib.hid ((hb1.block w.heap.size (by rw [HZ0.out]; omega)).trans HP0.out)
  have HBW1 := Lib.hid (HB0.out.trans (hb1.mono HB0.out.size))
  have hlo : w.heap.size + 2 ≤ w1.heap.size := by have := hb1.size; rw [HZ0.out] at this; exact this
  obtain ⟨xs, hxs⟩ : ∃ xs, xs = P.lines [] l := ⟨_, rfl⟩
  rw [← hxs] at hcells hfew hshort ⊢
  have HXS := Lib.hid hshort
  have HC : Hid (0 < xs.length → ∃ bk off, A1 = some ⟨bk, off, none⟩ ∧ w.heap.size + 2 ≤ bk ∧ bk < w1.heap.size ∧ ∀ j (hj : j < xs.length), w1.cell? ⟨bk, off + j * 2, none⟩ = some (.string ⟨xs[j].1.toArray⟩)) := Lib.hid (fun hp => by
    obtain ⟨g, e, hg, hgl, hcc⟩ := hcells hp
    exact ⟨g, 0, e, by rw [← HZ0.out]; exact hg, hgl, fun j hj => by rw [Nat.zero_add]; exact hcc _ _ (lineCells_at xs j hj).1⟩)
  have HXX := Lib.hid hxs
  clear hcells hown hb1 hxs hshort HLN HA HP0 HS0 HB0 HZ0
  obtain ⟨rb, hrb⟩ : ∃ rb, rb = w.heap.size := ⟨_, rfl⟩
  obtain ⟨sb, hsb⟩ : ∃ sb, sb = w.heap.size + 1 := ⟨_, rfl⟩
  have n1 : rb < sb := by omega
  have n2 : sb + 1 ≤ w1.heap.size := by omega
  rw [← hsb] at HSD
  rw [← hrb] at HP1 HBW1
  rw [show w.heap.size + 2 = sb + 1 by omega] at HC
  clear hlo
  obtain ⟨base, hbase⟩ : ∃ base, base = w1.heap.size := ⟨_, rfl⟩
  rw [← hbase] at HSD HC n2
  clear hbase
  rw [← hsb, ← hrb]
  have HRB := Lib.hid hrb
  clear hsb hrb
  go_wp2_with fail
  go_loopg [7] xs.length (fun m i wr => ∃ (k : Nat) (s : St) (uv fv : Value), k ≤ xs.length ∧ i = .int .i64 k ∧ xs.length - k ≤ m ∧ s.p.us.length ≤ 32 ∧ s.p.fs.length ≤ 32 ∧ Hid (Sd wr base sb s uv fv) ∧ Hid (Bx base sb w1 wr) ∧ Hid (takeAll St.start 0 xs = takeAll s k (xs.drop k)))
  case atStart => exact ⟨0, St.start, .slice none 0 0, .slice none 0 0, Nat.zero_le _, rfl, by omega, by decide, by decide, HSD, Lib.hid (Below.refl _ _).bx, Lib.hid rfl⟩
  case round =>
    obtain ⟨k, s, uv, fv, hk, rfl, hm, hus, hfs, HS, HX, HT⟩ := hrel
    by_cases hlt : k < xs.length
    · obtain ⟨bk, off, hAe, hb2, hb3, hcc⟩ := HC.out (by omega)
      subst hAe
      have c0 := (bx_cell (i := off + k * 2) HX.out hb3 (by omega)).trans (hcc k hlt)
      clear hcc
      have hst := fun t => @takeAll_some s t k xs hlt
      have hsn := @takeAll_none s k xs hlt
      have hsz := HXS.out _ (List.getElem_mem hlt)
      generalize xs[k].1 = tx at *
      obtain ⟨x, hx⟩ : ∃ x : ByteArray, x = ⟨tx.toArray⟩ := ⟨_, rfl⟩
      have hxd : x.data.toList = tx := by rw [hx, list_data]
      rw [← hx] at c0
      clear hx
      rw [← hxd] at hst hsn hsz
      have hxz : x.size ≤ 8192 := by rw [Lib.size_eq]; exact hsz
      clear hxd hsz
      have h0k : (0 : Int) ≤ (k : Int) := by omega
      have hki : (k : Int) < (xs.length : Int) := by omega
      by_cases he : x.size = 0
      · have hx0 := empty_of_size he
        have HT2 : Hid (takeAll St.start 0 xs = takeAll s (k + 1) (xs.drop (k + 1))) := Lib.hid (by rw [HT.out, hst s (by rw [hx0]; rfl)])
        subst hx0
        clear hst hsn he HT hxz
        go_wp2_with fail
        go_roundg (xs.length - (k + 1))
        case rel => exact ⟨k + 1, s, uv, fv, by omega, by go_num, Nat.le_refl _, hus, hfs, HS, HX, HT2⟩
        case measure => omega
      have hpos : 0 < x.size := by omega
      have hposl : 0 < x.data.toList.length := by rw [← Lib.size_eq]; exact hpos
      have hhead : x.data.toList.head? = some x[0] := by
        rw [List.head?_eq_getElem?, List.getElem?_eq_getElem hposl, byte x 0 hpos hposl]
      have hne : x.data.toList ≠ [] := fun e => by rw [e] at hposl; simp at hposl
      by_cases h35 : x[0].toNat = 35
      · have HT2 : Hid (takeAll St.start 0 xs = takeAll s (k + 1) (xs.drop (k + 1))) := Lib.hid (by
          rw [HT.out, hst s ?_]
          unfold take
          rw [if_pos (.inr (by rw [hhead, show x[0] = 35 from UInt8.toNat_inj.1 h35]))])
        have q : ((x[0].toNat : Int) != 35) = false := by rw [h35]; rfl
        clear hst hsn he HT hxz h35 hhead hne
        go_wp2_with fail
        go_roundg (xs.length - (k + 1))
        case rel => exact ⟨k + 1, s, uv, fv, by omega, by go_num, Nat.le_refl _, hus, hfs, HS, HX, HT2⟩
        case measure => omega
      · have q : ((x[0].toNat : Int) != 35) = true := by rw [bne_iff_ne]; omega
        have h0' : ¬ (x.data.toList = [] ∨ x.data.toList.head? = some 35) := by
          rintro (e | e)
          · exact hne e
          · rw [hhead] at e
            injection e with e
            exact h35 (by rw [e]; rfl)
        have HL := Lib.hid (rline_any HS.out x hxz h0' (Nat.le_trans hus (by unfold maxLen; omega)) (Nat.le_trans hfs (by unfold maxLen; omega)))
        cases ho : take s x.data.toList with
        | none =>
          rw [ho] at HL
          have HRA : Hid (readAll xs = .inr (k + 1)) := Lib.hid (by
            unfold readAll
            rw [HT.out, hsn ho])
          clear hst hsn he HT hxz h35 hhead hne h0' ho hus hfs
          go_wp2_with fail
          with_reducible refine (HL.out).mono ?_
          intro e w2 he2
          obtain ⟨rfl, hb4⟩ := he2
          have HPz := Lib.hid ((hb4.block rb (by omega) (by omega)).trans ((HX.out.block rb (by omega) (by omega)).trans HP1.out))
          have HBW := Lib.hid (HBW1.out.trans ((HX.out.trans hb4).low (by omega) (by omega)))
          clear hb4 HL HS HX c0 q
          obtain ⟨p0, p1, p2, p3, p4, p5, p6, p7, p8⟩ := zero_cells HPz.out
          have z0 := L.blk_free HPz.out 0
          have z1 := L.blk_free HPz.out 1
          have z2 := L.blk_free HPz.out 2
          have z3 := L.blk_free HPz.out 3
          have z4 := L.blk_free HPz.out 4
          have z5 := L.blk_free HPz.out 5
          have z6 := L.blk_free HPz.out 6
          have z7 := L.blk_free HPz.out 7
          have z8 := L.blk_free HPz.out 8
          have HZ := Lib.hid (stored9 (pb := rb) (.int .i64 0) (.int .i64 0) (.int .i64 0) (.int .i64 0) (.int .i64 0) (.int .i64 0) (.string ⟨#[]⟩) (.slice none 0 0) (.slice none 0 0) HPz.out)
          go_wp2_with fail
          clear p0 p1 p2 p3 p4 p5 p6 p7 p8 z0 z1 z2 z3 z4 z5 z6 z7 z8
          obtain ⟨W9, hW9⟩ : ∃ W9 : World, W9 = (((((((((w2.setCell ⟨rb, 0, none⟩ (.int .i64 0)).setCell ⟨rb, 1, none⟩ (.int .i64 0)).setCell ⟨rb, 2, none⟩ (.int .i64 0)).setCell ⟨rb, 3, none⟩ (.int .i64 0)).setCell ⟨rb, 4, none⟩ (.int .i64 0)).setCell ⟨rb, 5, none⟩ (.int .i64 0)).setCell ⟨rb, 6, none⟩ (.string ⟨#[]⟩)).setCell ⟨rb, 7, none⟩ (.slice none 0 0)).setCell ⟨rb, 8, none⟩ (.slice none 0 0)) := ⟨_, rfl⟩
          rw [← hW9] at HZ ⊢
          clear hW9
          obtain ⟨p0, p1, p2, p3, p4, p5, p6, p7, p8⟩ := pol_cells HZ.out.now
          refine bodyPost_ret (v := .tuple #[.agg zeroPol, .int .i64 ((k + 1 : Nat) : Int), .int .i64 3]) (by simp [results, Tryd.results13, go_sem, zeroPol, p0, p1, p2, p3, p4, p5, p6, p7, p8]) rfl ?_
          rw [← HXX.out, HRA.out]
          exact ⟨rfl, by rw [← HRB.out]; exact HBW.out.trans (HZ.out.below rb (Nat.le_refl _))⟩
        | some t =>
          rw [ho] at HL
          have HT2 : Hid (takeAll St.start 0 xs = takeAll t (k + 1) (xs.drop (k + 1))) := Lib.hid (by rw [HT.out, hst t ho])
          obtain ⟨hus2, hfs2⟩ := take_len ho hus hfs
          clear hst hsn he HT hxz h35 hhead hne h0' ho hus hfs
          go_wp2_with fail
          with_reducible refine (HL.out).mono ?_
          intro e w2 he2
          obtain ⟨rfl, ⟨uv2, fv2, hS2⟩, hb4⟩ := he2
          have HX2 := Lib.hid (HX.out.trans hb4)
          have HS2 := Lib.hid hS2
          clear hb4 hS2 HL HS HX c0 q
          go_wp2_with fail
          go_roundg (xs.length - (k + 1))
          case rel => exact ⟨k + 1, t, uv2, fv2, by omega, by go_num, Nat.le_refl _, hus2, hfs2, HS2, HX2, HT2⟩
          case measure => omega
    · have HT2 : Hid (takeAll St.start 0 xs = .inl s) := Lib.hid (by rw [HT.out, List.drop_eq_nil_of_le (by omega)]; rfl)
      have HON := Lib.hid HS.out.on
      have HPz := Lib.hid ((HX.out.block rb (by omega) (by omega)).trans HP1.out)
      have HBW := Lib.hid (HBW1.out.trans (HX.out.low (by omega) (by omega)))
      clear HT HC HXS
      go_wp2_with fail
      go_loopg [9] 8 (fun m i wx => ∃ j : Nat, j ≤ 7 ∧ i = .int .i64 j ∧ 8 - j ≤ m ∧ wx = wr ∧ Hid (∀ i, i < j → s.once.getD i false = true))
      case atStart => exact ⟨0, by omega, rfl, by omega, rfl, Lib.hid (fun i hi => absurd hi (Nat.not_lt_zero _))⟩
      case round =>
        obtain ⟨j, hj, rfl, hmj, rfl, HALL⟩ := hrel
        by_cases hj7 : j < 7
        · have d0 := (L.blk_cell HS.out.blk (9 + j)).trans (once_cell s.p s.once uv fv HON.out hj7)
          have h0j : (0 : Int) ≤ (j : Int) := by omega
          have hji : (j : Int) < 7 := by omega
          cases hon : s.once.getD j false with
          | true =>
            rw [hon] at d0
            have HALL2 : Hid (∀ i, i < j + 1 → s.once.getD i false = true) := Lib.hid (fun i hi => by
              rcases Nat.lt_or_ge i j with h1 | h1
              · exact HALL.out i h1
              · have : i = j := by omega
                rw [this]; exact hon)
            clear hon HALL
            go_wp2_with fail
            go_roundg (8 - (j + 1))
            case rel => exact ⟨j + 1, by omega, by go_num, Nat.le_refl _, rfl, HALL2⟩
            case measure => omega
          | false =>
            rw [hon] at d0
            have HRA : Hid (readAll xs = .inr 0) := Lib.hid (by
              unfold readAll
              rw [HT2.out]
              simp only
              rw [not_once HON.out hj7 hon]
              rfl)
            clear hon HALL HT2
            obtain ⟨p0, p1, p2, p3, p4, p5, p6, p7, p8⟩ := zero_cells HPz.out
            have z0 := L.blk_free HPz.out 0
            have z1 := L.blk_free HPz.out 1
            have z2 := L.blk_free HPz.out 2
            have z3 := L.blk_free HPz.out 3
            have z4 := L.blk_free HPz.out 4
            have z5 := L.blk_free HPz.out 5
            have z6 := L.blk_free HPz.out 6
            have z7 := L.blk_free HPz.out 7
            have z8 := L.blk_free HPz.out 8
            have HZ := Lib.hid (stored9 (pb := rb) (.int .i64 0) (.int .i64 0) (.int .i64 0) (.int .i64 0) (.int .i64 0) (.int .i64 0) (.string ⟨#[]⟩) (.slice none 0 0) (.slice none 0 0) HPz.out)
            go_wp2_with fail
            clear p0 p1 p2 p3 p4 p5 p6 p7 p8 z0 z1 z2 z3 z4 z5 z6 z7 z8
            obtain ⟨W9, hW9⟩ : ∃ W9 : World, W9 = (((((((((wr.setCell ⟨rb, 0, none⟩ (.int .i64 0)).setCell ⟨rb, 1, none⟩ (.int .i64 0)).setCell ⟨rb, 2, none⟩ (.int .i64 0)).setCell ⟨rb, 3, none⟩ (.int .i64 0)).setCell ⟨rb, 4, none⟩ (.int .i64 0)).setCell ⟨rb, 5, none⟩ (.int .i64 0)).setCell ⟨rb, 6, none⟩ (.string ⟨#[]⟩)).setCell ⟨rb, 7, none⟩ (.slice none 0 0)).setCell ⟨rb, 8, none⟩ (.slice none 0 0)) := ⟨_, rfl⟩
            rw [← hW9] at HZ ⊢
            clear hW9
            obtain ⟨p0, p1, p2, p3, p4, p5, p6, p7, p8⟩ := pol_cells HZ.out.now
            refine bodyPost_ret (v := .tuple #[.agg zeroPol, .int .i64 (0 : Int), .int .i64 3]) (by simp [results, Tryd.results13, go_sem, zeroPol, p0, p1, p2, p3, p4, p5, p6, p7, p8]) rfl ?_
            rw [← HXX.out, HRA.out]
            exact ⟨rfl, by rw [← HRB.out]; exact HBW.out.trans (HZ.out.below rb (Nat.le_refl _))⟩
        · have HRA : Hid (readAll xs = .inl s.p) := Lib.hid (by
            unfold readAll
            rw [HT2.out]
            simp only
            rw [all_once HON.out (fun i hi => HALL.out i (by omega))]
            rfl)
          clear HALL HT2
          obtain ⟨uA, ucap, hu, -, -⟩ := own_form HS.out.us
          obtain ⟨fA, fcap, hf, -, -⟩ := own_form HS.out.fs
          subst hu hf
          obtain ⟨⟨a0, a1, a2, a3, a4, a5⟩, a6, a7, a8⟩ := HS.out.nine
          obtain ⟨n0, hn0⟩ : ∃ x, x = s.p.ns.getD 0 0 := ⟨_, rfl⟩
          obtain ⟨n1', hn1⟩ : ∃ x, x = s.p.ns.getD 1 0 := ⟨_, rfl⟩
          obtain ⟨n2', hn2⟩ : ∃ x, x = s.p.ns.getD 2 0 := ⟨_, rfl⟩
          obtain ⟨n3, hn3⟩ : ∃ x, x = s.p.ns.getD 3 0 := ⟨_, rfl⟩
          obtain ⟨n4, hn4⟩ : ∃ x, x = s.p.ns.getD 4 0 := ⟨_, rfl⟩
          obtain ⟨n5, hn5⟩ : ∃ x, x = s.p.ns.getD 5 0 := ⟨_, rfl⟩
          obtain ⟨hid, hhid⟩ : ∃ x : ByteArray, x = ⟨s.p.hid.toArray⟩ := ⟨_, rfl⟩
          rw [← hn0] at a0
          rw [← hn1] at a1
          rw [← hn2] at a2
          rw [← hn3] at a3
          rw [← hn4] at a4
          rw [← hn5] at a5
          rw [← hhid] at a6
          have HNS : Hid (polA (s.p.ns.getD 0 0) (s.p.ns.getD 1 0) (s.p.ns.getD 2 0) (s.p.ns.getD 3 0) (s.p.ns.getD 4 0) (s.p.ns.getD 5 0) ⟨s.p.hid.toArray⟩ (.slice uA s.p.us.length ucap) (.slice fA s.p.fs.length fcap) = polA n0 n1' n2' n3 n4 n5 hid (.slice uA s.p.us.length ucap) (.slice fA s.p.fs.length fcap)) := Lib.hid (by rw [← hn0, ← hn1, ← hn2, ← hn3, ← hn4, ← hn5, ← hhid])
          clear hn0 hn1 hn2 hn3 hn4 hn5 hhid
          obtain ⟨p0, p1, p2, p3, p4, p5, p6, p7, p8⟩ := zero_cells HPz.out
          have z0 := L.blk_free HPz.out 0
          have z1 := L.blk_free HPz.out 1
          have z2 := L.blk_free HPz.out 2
          have z3 := L.blk_free HPz.out 3
          have z4 := L.blk_free HPz.out 4
          have z5 := L.blk_free HPz.out 5
          have z6 := L.blk_free HPz.out 6
          have z7 := L.blk_free HPz.out 7
          have z8 := L.blk_free HPz.out 8
          have d1 : ¬ rb = sb := by omega
          have d2 : ¬ sb = rb := by omega
          have HZ := Lib.hid (stored9 (pb := rb) (.int .i64 n0) (.int .i64 n1') (.int .i64 n2') (.int .i64 n3) (.int .i64 n4) (.int .i64 n5) (.string hid) (.slice uA s.p.us.length ucap) (.slice fA s.p.fs.length fcap) HPz.out)
          go_wp2_with fail
          clear a0 a1 a2 a3 a4 a5 a6 a7 a8 p0 p1 p2 p3 p4 p5 p6 p7 p8 z0 z1 z2 z3 z4 z5 z6 z7 z8
          obtain ⟨W9, hW9⟩ : ∃ W9 : World, W9 = (((((((((wr.setCell ⟨rb, 0, none⟩ (.int .i64 n0)).setCell ⟨rb, 1, none⟩ (.int .i64 n1')).setCell ⟨rb, 2, none⟩ (.int .i64 n2')).setCell ⟨rb, 3, none⟩ (.int .i64 n3)).setCell ⟨rb, 4, none⟩ (.int .i64 n4)).setCell ⟨rb, 5, none⟩ (.int .i64 n5)).setCell ⟨rb, 6, none⟩ (.string hid)).setCell ⟨rb, 7, none⟩ (.slice uA s.p.us.length ucap)).setCell ⟨rb, 8, none⟩ (.slice fA s.p.fs.length fcap)) := ⟨_, rfl⟩
          rw [← hW9] at HZ ⊢
          clear hW9
          obtain ⟨p0, p1, p2, p3, p4, p5, p6, p7, p8⟩ := pol_cells HZ.out.now
          refine bodyPost_ret (v := .tuple #[polA n0 n1' n2' n3 n4 n5 hid (.slice uA s.p.us.length ucap) (.slice fA s.p.fs.length fcap), .int .i64 0, .int .i64 0]) (by simp [results, Tryd.results13, go_sem, p0, p1, p2, p3, p4, p5, p6, p7, p8]) rfl ?_
          rw [← HXX.out, HRA.out]
          refine ⟨⟨_, _, by rw [HNS.out], ?_, ?_⟩, ?_⟩
          · rw [← HRB.out]
            exact own_moved HS.out.us (fun g hg => HZ.out.far g (by omega)) (by omega)
          · rw [← HRB.out]
            exact own_moved HS.out.fs (fun g hg => HZ.out.far g (by omega)) (by omega)
          · rw [← HRB.out]
            exact HBW.out.trans (HZ.out.below rb (Nat.le_refl _))
theorem refPolParse_any (A : Option Addr) (cap : Nat) (l : List UInt8) (w : World) (hA : BytesIn w A l) (hc : l.length ≤ cap) (hn : l.length ≤ maxLen) :
    Calls Tryd.prog 13 #[.slice A l.length cap] w (ParseEnd w l) := by
  by_cases h : 8192 < l.length
  · refine (rparse_long A cap l.length w h hn).mono fun e w' he => ?_
    unfold ParseEnd
    rw [if_pos h]
    exact he
  · refine (rparse_short A cap l w hA hc (by omega)).mono fun e w' he => ?_
    unfold ParseEnd
    rw [if_neg h]
    exact he
end Go.Proofs.YtadhhamfikpimaaDoor.O

namespace Go.Proofs.YtadhhamfikpimaaDoor.O
open Go.RowKit
open T

/-- What a text's policy comes to: the policy, the line, the error. -/
def pres (l : List UInt8) : Pol × Int × Int :=
  if 8192 < l.length then (Pol.none, 0, 4) else match readAll (P.lines [] l) with
    | .inl p => (p, 0, 0)
    | .inr k => (Pol.none, (k : Int), 3)
def Res (w : World) (n0 n1 n2 n3 n4 n5 : Int) (hid : ByteArray) (us : List Usr) (fs : List Flr) (x y : Int) (e : Ending) (w' : World) : Prop :=
  ∃ uA ucap fA fcap, e = .returned (.tuple #[polA n0 n1 n2 n3 n4 n5 hid (.slice uA us.length ucap) (.slice fA fs.length fcap), .int .i64 x, .int .i64 y]) ∧ UsersIn w' uA us ∧ FloorsIn w' fA fs ∧ Below w.heap.size w w'
theorem users_none {w : World} : UsersIn w none [] := fun h => absurd h (by simp)
theorem floors_none {w : World} : FloorsIn w none [] := fun h => absurd h (by simp)
theorem res_of {w w' : World} {l : List UInt8} {e : Ending} (h : ParseEnd w l e w') : Res w ((pres l).1.ns.getD 0 0) ((pres l).1.ns.getD 1 0) ((pres l).1.ns.getD 2 0) ((pres l).1.ns.getD 3 0) ((pres l).1.ns.getD 4 0) ((pres l).1.ns.getD 5 0) ⟨(pres l).1.hid.toArray⟩ (pres l).1.us (pres l).1.fs (pres l).2.1 (pres l).2.2 e w' := by
  unfold ParseEnd at h
  split at h
  · rename_i hl
    have ep : pres l = (Pol.none, 0, 4) := by unfold pres; rw [if_pos hl]
    rw [ep]
    exact ⟨none, 0, none, 0, h.1, users_none, floors_none, h.2⟩
  · rename_i hl
    unfold ReadEnd at h
    cases hr : readAll (P.lines [] l) with
    | inl p =>
      have ep : pres l = (p, 0, 0) := by unfold pres; rw [if_neg hl, hr]
      rw [ep]
      rw [hr] at h
      obtain ⟨⟨uv, fv, he, hu, hf⟩, hb⟩ := h
      obtain ⟨uA, ucap, hu1, hu2⟩ := users_of_own hu
      obtain ⟨fA, fcap, hf1, hf2⟩ := floors_of_own hf
      subst hu1 hf1
      exact ⟨uA, ucap, fA, fcap, he, hu2, hf2, hb⟩
    | inr k =>
      have ep : pres l = (Pol.none, (k : Int), 3) := by unfold pres; rw [if_neg hl, hr]
      rw [ep]
      rw [hr] at h
      exact ⟨none, 0, none, 0, h.1, users_none, floors_none, h.2⟩
theorem takeAll_len : ∀ (ls : List (List UInt8 × Bool)) (s t : St) (i : Nat), takeAll s i ls = .inl t → s.p.us.length ≤ 32 → s.p.fs.length ≤ 32 → t.p.us.length ≤ 32 ∧ t.p.fs.length ≤ 32
  | [], s, t, i, h, hu, hf => by rw [takeAll] at h; injection h with h; subst h; exact ⟨hu, hf⟩
  | x :: r, s, t, i, h, hu, hf => by
    rw [takeAll] at h
    cases ht : take s x.1 with
    | none => rw [ht] at h; cases h
    | some u =>
      rw [ht] at h
      obtain ⟨h1, h2⟩ := take_len ht hu hf
      exact takeAll_len r u t (i + 1) h h1 h2
theorem pres_len (l : List UInt8) : (pres l).1.us.length ≤ 32 ∧ (pres l).1.fs.length ≤ 32 := by
  unfold pres
  split
  · exact ⟨by decide, by decide⟩
  · cases hr : readAll (P.lines [] l) with
    | inl p =>
      unfold readAll at hr
      cases ht : takeAll St.start 0 (P.lines [] l) with
      | inl s =>
        rw [ht] at hr
        simp only at hr
        split at hr
        · injection hr with hr
          subst hr
          exact takeAll_len _ _ _ _ ht (by decide) (by decide)
        · cases hr
      | inr k => rw [ht] at hr; cases hr
    | inr k => exact ⟨by show (0 : Nat) ≤ 32; omega, by show (0 : Nat) ≤ 32; omega⟩
def PaC (A : Option Addr) (cap n : Nat) (l : List UInt8) (n0 n1 n2 n3 n4 n5 : Int) (hid : ByteArray) (us : List Usr) (fs : List Flr) (x y : Int) : Prop := ∀ W : World, BytesIn W A l → Tab W → Calls Tryd.prog 12 #[.slice A n cap] W (Res W n0 n1 n2 n3 n4 n5 hid us fs x y)
theorem PaC.call {A : Option Addr} {cap n : Nat} {l : List UInt8} {n0 n1 n2 n3 n4 n5 : Int} {hid : ByteArray} {us : List Usr} {fs : List Flr} {x y : Int} (h : PaC A cap n l n0 n1 n2 n3 n4 n5 hid us fs x y) {W : World} (h1 : BytesIn W A l) (h2 : Tab W) : Calls Tryd.prog 12 #[.slice A n cap] W (Res W n0 n1 n2 n3 n4 n5 hid us fs x y) := h W h1 h2
def RPaC (A : Option Addr) (cap n : Nat) (l : List UInt8) (n0 n1 n2 n3 n4 n5 : Int) (hid : ByteArray) (us : List Usr) (fs : List Flr) (x y : Int) : Prop := ∀ W : World, BytesIn W A l → Calls Tryd.prog 13 #[.slice A n cap] W (Res W n0 n1 n2 n3 n4 n5 hid us fs x y)
theorem RPaC.call {A : Option Addr} {cap n : Nat} {l : List UInt8} {n0 n1 n2 n3 n4 n5 : Int} {hid : ByteArray} {us : List Usr} {fs : List Flr} {x y : Int} (h : RPaC A cap n l n0 n1 n2 n3 n4 n5 hid us fs x y) {W : World} (h1 : BytesIn W A l) : Calls Tryd.prog 13 #[.slice A n cap] W (Res W n0 n1 n2 n3 n4 n5 hid us fs x y) := h W h1

set_option maxRecDepth 100000 in
set_option maxHeartbeats 4000000 in
theorem parses_law (A : Option Addr) (cap n : Nat) (l : List UInt8) (n0 n1 n2 n3 n4 n5 : Int) (hid : ByteArray) (us : List Usr) (fs : List Flr) (x y : Int) (w : World) (HT : Hid (Tab w)) (HA : Hid (BytesIn w A l)) (HU : Hid (us.length ≤ 32)) (HF : Hid (fs.length ≤ 32))
    (PC : Hid (PaC A cap n l n0 n1 n2 n3 n4 n5 hid us fs x y)) (RC : Hid (RPaC A cap n l n0 n1 n2 n3 n4 n5 hid us fs x y)) :
    Calls Tryd.prog 3 #[.slice A n cap] w fun e w' => e = .returned (.bool true) ∧ Below w.heap.size w w' := by
  go_enter Tryd.func3, Tryd.ntmps3
  go_wp2_with fail
  with_reducible refine (PC.out.call HA.out HT.out).mono ?_
  intro e w1 he
  obtain ⟨uA, ucap, fA, fcap, rfl, hU1, hF1, hb1⟩ := he
  obtain ⟨W, hW⟩ : ∃ W : World, W = w1.alloc (.cells #[.int .i64 n0, .int .i64 n1, .int .i64 n2, .int .i64 n3, .int .i64 n4, .int .i64 n5, .string hid, .slice uA us.length ucap, .slice fA fs.length fcap] 26) := ⟨_, rfl⟩
  have hbW : Below w1.heap.size w1 W := by rw [hW]; exact (Below.refl _ _).alloc (Nat.le_refl _) _
  have HPB := Lib.hid (show W.heap[w1.heap.size]? = some (.cells #[.int .i64 n0, .int .i64 n1, .int .i64 n2, .int .i64 n3, .int .i64 n4, .int .i64 n5, .string hid, .slice uA us.length ucap, .slice fA fs.length fcap] 26 (0, 0)) by rw [hW]; exact heap_alloc_new w1 _)
  have HU1 := Lib.hid (hU1.below hbW)
  have HF1 := Lib.hid (hF1.below hbW)
  have HB1 := Lib.hid (hb1.trans (hbW.mono hb1.size))
  have HA1 := Lib.hid (HA.out.below HB1.out)
  clear hU1 hF1 hb1 hbW PC
  go_wp2_with fail
  rw [← hW]
  clear hW
  generalize w1.heap.size = pb at *
  with_reducible refine (RC.out.call HA1.out).mono ?_
  intro e w2 he
  obtain ⟨uB, ucap', fB, fcap', rfl, hU2, hF2, hb2⟩ := he
  have HPB2 := Lib.hid ((hb2.block pb (L.blk_lt HPB.out)).trans HPB.out)
  have HB2 := Lib.hid (HB1.out.trans (hb2.mono HB1.out.size))
  have HU2 := Lib.hid (HU1.out.below hb2)
  have HF2 := Lib.hid (HF1.out.below hb2)
  have hpl : pb < w2.heap.size := L.blk_lt HPB2.out
  clear HPB HB1 HU1 HF1 HA1 RC hb2
  obtain ⟨W4, hW4⟩ : ∃ W4 : World, W4 = w2.alloc (.cells #[.int .i64 n0, .int .i64 n1, .int .i64 n2, .int .i64 n3, .int .i64 n4, .int .i64 n5, .string hid, .slice uB us.length ucap', .slice fB fs.length fcap'] 26) := ⟨_, rfl⟩
  have hb4 : Below w2.heap.size w2 W4 := by rw [hW4]; exact (Below.refl _ _).alloc (Nat.le_refl _) _
  have HQB := Lib.hid (show W4.heap[w2.heap.size]? = some (.cells #[.int .i64 n0, .int .i64 n1, .int .i64 n2, .int .i64 n3, .int .i64 n4, .int .i64 n5, .string hid, .slice uB us.length ucap', .slice fB fs.length fcap'] 26 (0, 0)) by rw [hW4]; exact heap_alloc_new w2 _)
  have HPB4 := Lib.hid ((hb4.block pb hpl).trans HPB2.out)
  have HU4 := Lib.hid (HU2.out.below hb4)
  have HF4 := Lib.hid (HF2.out.below hb4)
  have HV4 := Lib.hid (hU2.below hb4)
  have HG4 := Lib.hid (hF2.below hb4)
  have HB4 := Lib.hid (HB2.out.trans (hb4.mono HB2.out.size))
  clear hU2 hF2 HPB2 HU2 HF2 HB2 hb4
  go_wp2_with fail
  rw [← hW4]
  clear hW4 hpl
  generalize w2.heap.size = qb at *
  with_reducible refine (live3 _ (HT.out.later HB4.out)).mono ?_
  rintro e w5 ⟨rfl, hb5⟩
  have HP5 := Lib.hid ((hb5.block pb (L.blk_lt HPB4.out)).trans HPB4.out)
  have HQ5 := Lib.hid ((hb5.block qb (L.blk_lt HQB.out)).trans HQB.out)
  have HU5 := Lib.hid (HU4.out.below hb5)
  have HF5 := Lib.hid (HF4.out.below hb5)
  have HV5 := Lib.hid (HV4.out.below hb5)
  have HG5 := Lib.hid (HG4.out.below hb5)
  have HB5 := Lib.hid (HB4.out.trans (hb5.mono HB4.out.size))
  clear HPB4 HQB HU4 HF4 HV4 HG4 HB4 hb5 HT HA
  obtain ⟨a0, a1, a2, a3, a4, a5, a6, a7, a8⟩ := pol_cells HP5.out
  obtain ⟨b0, b1, b2, b3, b4, b5, b6, b7, b8⟩ := pol_cells HQ5.out
  go_wp2_with fail
  with_reducible refine (refSame_any _ _ _ _ _ _ _ _ _ _ _ _ _ _ _ _ _ _ HU5.out HV5.out HF5.out HG5.out (Nat.le_trans HU.out (by unfold maxLen; omega)) (Nat.le_trans HF.out (by unfold maxLen; omega))).mono ?_
  rintro e w6 ⟨rfl, hb6⟩
  have HB6 := Lib.hid (HB5.out.trans (hb6.mono HB5.out.size))
  clear a0 a1 a2 a3 a4 a5 a6 a7 a8 b0 b1 b2 b3 b4 b5 b6 b7 b8 hb6
  go_wp2_with fail
  go_ret
  exact ⟨rfl, HB6.out⟩
theorem parses_walk (A : Option Addr) (cap : Nat) (l : List UInt8) (w : World) (hA : BytesIn w A l) (hc : l.length ≤ cap) (hn : l.length ≤ maxLen) (ht : Tab w) :
    Calls Tryd.prog 3 #[.slice A l.length cap] w fun e w' => e = .returned (.bool true) ∧ Below w.heap.size w w' := by
  obtain ⟨h1, h2⟩ := pres_len l
  exact parses_law A cap l.length l _ _ _ _ _ _ _ _ _ _ _ w (Lib.hid ht) (Lib.hid hA) (Lib.hid h1) (Lib.hid h2)
    (Lib.hid fun W hA hT => (parse_any A cap l W hA hc hn hT).mono fun e w' he => res_of he)
    (Lib.hid fun W hA => (refPolParse_any A cap l W hA hc hn).mono fun e w' he => res_of he)
end Go.Proofs.YtadhhamfikpimaaDoor.O
