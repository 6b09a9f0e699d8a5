/-
  What the reference's Check, Changed, side, Sides and Apply come to.
  The reference's normal form: plain, and it is the code's; its rows in memory; what lay comes to.
  The reference's rows in memory while it lays a script; what lay comes to.
  What the reference's Normal comes to.
-/
import Derived.Test.YtigghcmbdnidnaaGpg
import Derived.Test.YtigghcmbdnidnaaGph
namespace Go.Proofs.Ytigghcmbdnidnaa.S
open Go.RowKit
open T
open V (grown_of IntsIn numCells numCells_snoc ints_own drawn_below)
open I (alloc1 own_at own_below)
open N (Ln)

theorem edit_at {b : Nat} {w wr : World} {A : Option Addr} {es : List Ed} {k : Nat} (h : EdsIn b w A es) (hb : Below w.heap.size w wr) (hk : k < es.length) :
    ∃ bk off LA lc, A = some ⟨bk, off, none⟩ ∧ wr.cell? ⟨bk, off + k * 2, none⟩ = some (.int .i64 es[k].1) ∧ wr.cell? ⟨bk, off + k * 2 + 1, none⟩ = some (.slice LA es[k].2.length lc) ∧ LinesIn w LA es[k].2 ∧ es[k].2.length ≤ lc ∧ (LA = none → lc = 0) := by
  obtain ⟨bk, off, hA, -, hbk, hI⟩ := h (by omega)
  obtain ⟨LA, lc, g0, g1, g2, g3, g4, -⟩ := hI k hk
  exact ⟨bk, off, LA, lc, hA, (hb.cell (p := ⟨bk, off + k * 2, none⟩) hbk).trans g0, (hb.cell (p := ⟨bk, off + k * 2 + 1, none⟩) hbk).trans g1, g2, g3, g4⟩
set_option maxRecDepth 100000 in
set_option maxHeartbeats 4000000 in
theorem rchanged_any (A : Option Addr) (c b : Nat) (es : List Ed) (w : World) (hE : EdsIn b w A es) (hok : EdsOk es) :
    Calls Try.prog 50 #[.slice A es.length c] w fun e w' => e = .returned (.int .i64 (chg es)) ∧ Below w.heap.size w w' := by
  have HE := Lib.hid hE
  have hl := hok.len
  unfold maxLen at hl
  clear hE hok
  go_enter Try.func50, Try.ntmps50
  go_wp2_with fail
  go_loopg [3, 4] es.length (fun m nv iv wr => ∃ (k : Nat) (n : Int), k ≤ es.length ∧ iv = .int .i64 k ∧ nv = .int .i64 n ∧ es.length - k ≤ m ∧ Hid (n = chg (es.take k)) ∧ Hid (Below w.heap.size w wr))
  case atStart => exact ⟨0, 0, Nat.zero_le _, rfl, rfl, by omega, Lib.hid rfl, Lib.hid (Below.refl _ _)⟩
  case round =>
    obtain ⟨k, n, hk, rfl, rfl, hmm, HN, HB⟩ := hrel
    by_cases hlt : k < es.length
    · obtain ⟨bk, off, LA, lc, hAe, c0, c1, -⟩ := edit_at HE.out HB.out hlt
      subst hAe
      have HT := Lib.hid (chg_take hlt)
      rw [← HN.out] at HT
      generalize es[k] = e at *
      obtain ⟨d, l⟩ := e
      simp only at c0 c1
      have h0k : (0 : Int) ≤ (k : Int) := by omega
      have hki : (k : Int) < (es.length : Int) := by omega
      by_cases h2 : d = 2
      · subst h2
        have hT : chg (es.take (k + 1)) = IntKind.i64.wrap (n + l.length) := by rw [HT.out]; rfl
        clear HT
        go_wp2_with fail
        go_roundg (es.length - (k + 1))
        case rel => exact ⟨k + 1, _, by omega, by go_num, rfl, Nat.le_refl _, Lib.hid (by rw [hT]; exact (Go.IntWalk.i64_left _).symm), HB⟩
        case measure => omega
      · have hd2 : (d == 2) = false := beq_eq_false_iff_ne.2 h2
        by_cases h3 : d = 3
        · subst h3
          have hT : chg (es.take (k + 1)) = IntKind.i64.wrap (n + l.length) := by rw [HT.out]; rfl
          clear HT
          go_wp2_with fail
          go_roundg (es.length - (k + 1))
          case rel => exact ⟨k + 1, _, by omega, by go_num, rfl, Nat.le_refl _, Lib.hid (by rw [hT]; exact (Go.IntWalk.i64_left _).symm), HB⟩
          case measure => omega
        · have hd3 : (d == 3) = false := beq_eq_false_iff_ne.2 h3
          have hT : chg (es.take (k + 1)) = n := by rw [HT.out]; simp [cg, h2, h3]
          clear h2 h3 HT
          go_wp2_with fail
          go_roundg (es.length - (k + 1))
          case rel => exact ⟨k + 1, _, by omega, by go_num, rfl, Nat.le_refl _, Lib.hid hT.symm, HB⟩
          case measure => omega
    · obtain rfl : k = es.length := by omega
      have hn := HN.out
      rw [List.take_length] at hn
      subst hn
      go_wp2_with fail
      go_ret
      exact ⟨rfl, HB.out⟩
set_option maxRecDepth 100000 in
set_option maxHeartbeats 4000000 in
theorem rcheck_any (A : Option Addr) (c b : Nat) (es : List Ed) (w : World) (hE : EdsIn b w A es) (hok : EdsOk es) :
    Calls Try.prog 42 #[.slice A es.length c] w fun e w' => e = .returned (.int .i64 (ck es)) ∧ Below w.heap.size w w' := by
  have HE := Lib.hid hE
  have hl := hok.len
  have HLS := Lib.hid hok.ls
  unfold maxLen at hl
  clear hE hok
  go_enter Try.func42, Try.ntmps42
  by_cases hlong : 800 < es.length
  · have hc := ck_long (es := es) (.inl hlong)
    have h8 : (800 : Int) < (es.length : Int) := by omega
    go_wp2_with fail
    go_ret
    exact ⟨by first | (rw [hc]; rfl) | rfl, Below.refl _ _⟩
  have h8 : ¬ (800 : Int) < (es.length : Int) := by omega
  have h8' : es.length ≤ 800 := by omega
  clear hlong
  go_wp2_with fail
  go_loopg [3, 4] es.length (fun m rv iv wr => ∃ (k t : Nat), k ≤ es.length ∧ iv = .int .i64 k ∧ rv = .int .i64 (t : Int) ∧ es.length - k ≤ m ∧ t ≤ 800 ∧ Hid (t = tl (es.take k)) ∧ Hid (Below w.heap.size w wr))
  case atStart => exact ⟨0, 0, Nat.zero_le _, rfl, rfl, by omega, Nat.zero_le _, Lib.hid rfl, Lib.hid (Below.refl _ _)⟩
  case round =>
    obtain ⟨k, t, hk, rfl, rfl, hmm, htk, HTT, HB⟩ := hrel
    by_cases hlt : k < es.length
    · obtain ⟨bk, off, LA, lc, hAe, c0, c1, -⟩ := edit_at HE.out HB.out hlt
      subst hAe
      have hT := tl_take hlt
      rw [← HTT.out] at hT
      have hTL := tl_le es (k + 1)
      have hll := HLS.out _ (List.getElem_mem hlt)
      unfold maxLen at hll
      generalize es[k] = e at *
      obtain ⟨d, l⟩ := e
      simp only at c0 c1 hT hll
      have h0k : (0 : Int) ≤ (k : Int) := by omega
      have hki : (k : Int) < (es.length : Int) := by omega
      have HT := Lib.hid hT
      have hws : IntKind.i64.wrap ((800 : Int) - (t : Int)) = 800 - (t : Int) := by rw [IntKind.wrap_i64]; omega
      clear hT
      by_cases hgt : (800 : Int) - (t : Int) < (l.length : Int)
      · have hc := ck_long (es := es) (.inr (by have := HT.out; omega))
        have hgd : decide ((800 : Int) - (t : Int) < (l.length : Int)) = true := decide_eq_true hgt
        go_wp2_with fail
        go_ret
        exact ⟨by first | (rw [hc]; rfl) | rfl, HB.out⟩
      · have hgd : decide ((800 : Int) - (t : Int) < (l.length : Int)) = false := decide_eq_false hgt
        have hwa : IntKind.i64.wrap ((t : Int) + (l.length : Int)) = ((t + l.length : Nat) : Int) := by rw [IntKind.wrap_i64]; omega
        go_wp2_with fail
        go_roundg (es.length - (k + 1))
        case rel => exact ⟨k + 1, t + l.length, by omega, by go_num, by go_num, Nat.le_refl _, by omega, Lib.hid HT.out.symm, HB⟩
        case measure => omega
    · obtain rfl : k = es.length := by omega
      have htk2 : tl es ≤ 800 := by have := HTT.out; rw [List.take_length] at this; omega
      clear hk hmm hlt HTT
      go_wp2_with fail
      go_loopg [5] es.length (fun m iv wx => ∃ (k : Nat), k ≤ es.length ∧ iv = .int .i64 k ∧ es.length - k ≤ m ∧ Hid (∀ j (hj : j < es.length), j < k → okDo es[j].1 = true) ∧ Hid (Below w.heap.size w wx))
      case atStart => exact ⟨0, Nat.zero_le _, rfl, by omega, Lib.hid (fun j _ h => absurd h (Nat.not_lt_zero _)), HB⟩
      case round =>
        clear HB
        obtain ⟨k, hk, rfl, hmm, HOK, HB⟩ := hrel
        by_cases hlt : k < es.length
        · obtain ⟨bk, off, LA, lc, hAe, c0, c1, -⟩ := edit_at HE.out HB.out hlt
          subst hAe
          have HFM := Lib.hid (fun h => ck_form h8' htk2 hlt h)
          have HNX : Hid (okDo es[k].1 = true → ∀ j (hj : j < es.length), j < k + 1 → okDo es[j].1 = true) := Lib.hid (fun h j hj hjk => by
            by_cases e : j = k
            · subst e; exact h
            · exact HOK.out j hj (by omega))
          generalize es[k] = e at *
          obtain ⟨d, l⟩ := e
          simp only at c0 c1
          have h0k : (0 : Int) ≤ (k : Int) := by omega
          have hki : (k : Int) < (es.length : Int) := by omega
          by_cases h1 : d = 1
          · subst h1
            go_wp2_with fail
            go_roundg (es.length - (k + 1))
            case rel => exact ⟨k + 1, by omega, by go_num, Nat.le_refl _, Lib.hid (HNX.out rfl), HB⟩
            case measure => omega
          · have e1 : (d == 1) = false := beq_eq_false_iff_ne.2 h1
            have n1 : (d != 1) = true := by simp [bne, e1]
            by_cases h2 : d = 2
            · subst h2
              go_wp2_with fail
              go_roundg (es.length - (k + 1))
              case rel => exact ⟨k + 1, by omega, by go_num, Nat.le_refl _, Lib.hid (HNX.out rfl), HB⟩
              case measure => omega
            · have e2 : (d == 2) = false := beq_eq_false_iff_ne.2 h2
              have n2 : (d != 2) = true := by simp [bne, e2]
              by_cases h3 : d = 3
              · subst h3
                go_wp2_with fail
                go_roundg (es.length - (k + 1))
                case rel => exact ⟨k + 1, by omega, by go_num, Nat.le_refl _, Lib.hid (HNX.out rfl), HB⟩
                case measure => omega
              · have e3 : (d == 3) = false := beq_eq_false_iff_ne.2 h3
                have n3 : (d != 3) = true := by simp [bne, e3]
                have hc := HFM.out (by simp [okDo, e1, e2, e3])
                clear h1 h2 h3 e1 e2 e3
                go_wp2_with fail
                go_ret
                exact ⟨by first | (rw [hc]; rfl) | rfl, HB.out⟩
        · obtain rfl : k = es.length := by omega
          have hc := ck_all h8' htk2 (fun j hj => HOK.out j hj hj)
          go_wp2_with fail
          go_ret
          exact ⟨by first | (rw [hc]; rfl) | rfl, HB.out⟩
/-- A row of lines. -/
def LsEnd (w : World) (r : List Ln) (e : Ending) (w' : World) : Prop := ∃ A cap, e = .returned (.slice A r.length cap) ∧ LinesIn w' A r ∧ Below w.heap.size w w'
set_option maxRecDepth 100000 in
set_option maxHeartbeats 4000000 in
theorem rside_any (but : Int) (A : Option Addr) (c b : Nat) (es : List Ed) (w : World) (hE : EdsIn b w A es) (hel : es.length ≤ 800) (htl : tl es ≤ 800) :
    Calls Try.prog 54 #[.slice A es.length c, .int .i64 but] w (LsEnd w (sd but es)) := by
  have HE := Lib.hid hE
  obtain ⟨W0, hW0⟩ : ∃ W : World, W = w.alloc (.cells #[] 59) := ⟨_, rfl⟩
  have HO0 : Hid (W0.ownsRow w.heap.size 59 2 (.slice (some ⟨w.heap.size, 0, none⟩) 0 0) ([] : List Ln).length (lineCells [])) := Lib.hid (by rw [hW0]; exact World.ownsRow_made (size := 2) (e := 59) w #[] 0 (Nat.le_refl _) (by unfold maxLen; omega) rfl)
  have HB0 := Lib.hid (show Below w.heap.size w W0 by rw [hW0]; exact alloc1 _ _)
  clear hE
  go_enter Try.func54, Try.ntmps54
  go_wp2_with fail
  rw [← hW0]
  clear hW0
  go_loopg [5, 6] es.length (fun m ov iv wr => ∃ (k : Nat) (o : List Ln), k ≤ es.length ∧ iv = .int .i64 k ∧ es.length - k ≤ m ∧ Hid (o = sd but (es.take k)) ∧ Hid (wr.ownsRow w.heap.size 59 2 ov o.length (lineCells o)) ∧ Hid (Below w.heap.size w wr))
  case atStart => exact ⟨0, [], Nat.zero_le _, rfl, by omega, Lib.hid rfl, HO0, HB0⟩
  case round =>
    clear HO0 HB0
    obtain ⟨k, o, hk, rfl, hmm, HT, HO, HB⟩ := hrel
    obtain ⟨oA, ocap, rfl, -, -⟩ := own_form HO.out
    have hol : o.length ≤ 800 := by rw [HT.out]; have := sd_len but (es.take k); have := tl_le es k; omega
    by_cases hlt : k < es.length
    · obtain ⟨bk, off, LA, lc, hAe, c0, c1, g2, -, g4⟩ := edit_at HE.out HB.out hlt
      subst hAe
      have HL1 : Hid (LinesIn wr LA es[k].2) := Lib.hid (g2.below HB.out)
      have HLN := Lib.hid g4
      have hel4 : es[k].2.length ≤ 800 := by have := tl_take hlt; have := tl_le es (k + 1); omega
      have HNS : Hid (sd but (es.take (k + 1)) = o ++ (if es[k].1 = but then [] else es[k].2)) := Lib.hid (by rw [sd_take hlt, ← HT.out])
      generalize es[k] = e at *
      obtain ⟨d, l⟩ := e
      simp only at c0 c1 hel4 HL1 HLN HNS
      have h0k : (0 : Int) ≤ (k : Int) := by omega
      have hki : (k : Int) < (es.length : Int) := by omega
      have hbr := HB.out.size
      clear g2 g4
      by_cases hd : d = but
      · have hnb : (d != but) = false := by simp [hd]
        have HN2 : Hid (sd but (es.take (k + 1)) = o) := Lib.hid (by rw [HNS.out, if_pos hd]; simp)
        clear hd
        go_wp2_with fail
        go_roundg (es.length - (k + 1))
        case rel => exact ⟨k + 1, o, by omega, by go_num, Nat.le_refl _, Lib.hid HN2.out.symm, HO, HB⟩
        case measure => omega
      · have hnb : (d != but) = true := by simpa [bne] using hd
        have HN2 : Hid (sd but (es.take (k + 1)) = o ++ l) := Lib.hid (by rw [HNS.out, if_neg hd])
        clear hd
        go_wp2_with (at_builtin; refine wpList_append_lines (w := wr) rfl (.tmp 21) (.tmp 26) rfl w.heap.size (.slice oA o.length ocap) o l rfl HO.out LA lc rfl HL1.out HLN.out (by omega) hbr ?_; intro v' w4 ho4 hg4 hat4; have HO4 := Lib.hid ho4; have HB4 := Lib.hid (HB.out.grown hg4 hbr (fun q e => own_base HO.out q e)); clear ho4 hg4 hat4)
        go_roundg (es.length - (k + 1))
        case rel => exact ⟨k + 1, o ++ l, by omega, by go_num, Nat.le_refl _, Lib.hid HN2.out.symm, HO4, HB4⟩
        case measure => omega
    · obtain rfl : k = es.length := by omega
      rw [List.take_length] at HT
      have ht := HT.out
      subst ht
      go_wp2_with fail
      go_ret
      exact ⟨oA, ocap, rfl, own_lines HO.out, HB.out⟩
/-- Both sides and an error, to be read. -/
def RsEnd (w : World) (b a : List Ln) (e0 : Int) (e : Ending) (w' : World) : Prop :=
  ∃ A ca B cb, e = .returned (.tuple #[.slice A b.length ca, .slice B a.length cb, .int .i64 e0]) ∧ LinesIn w' A b ∧ LinesIn w' B a ∧ Below w.heap.size w w'
set_option maxRecDepth 100000 in
set_option maxHeartbeats 4000000 in
theorem rsides_any (A : Option Addr) (c b : Nat) (es : List Ed) (w : World) (hE : EdsIn b w A es) (hok : EdsOk es) :
    Calls Try.prog 40 #[.slice A es.length c] w (RsEnd w (sides es).1 (sides es).2 (ck es)) := by
  have HC := Lib.hid (rcheck_any A c b es w hE hok)
  by_cases hc : ck es = 0
  · obtain ⟨hel, htl, hd3⟩ := ck_ok hc
    have HS : Hid (sides es = (sd 3 es, sd 2 es)) := Lib.hid (by unfold sides; rw [if_pos hc])
    have H3 := Lib.hid (fun (W : World) (h : Below w.heap.size w W) => rside_any 3 A c b es W (hE.below h) hel htl)
    have H2 := Lib.hid (fun (W : World) (h : Below w.heap.size w W) => rside_any 2 A c b es W (hE.below h) hel htl)
    rw [HS.out]
    rw [hc] at HC ⊢
    clear hE hok hd3 HS hc
    go_enter Try.func40, Try.ntmps40
    go_wp2_with fail
    with_reducible refine (HC.out).mono ?_
    rintro e w1 ⟨rfl, hb1⟩
    have HB1 := Lib.hid hb1
    clear hb1
    go_wp2_with fail
    with_reducible refine (H3.out w1 HB1.out).mono ?_
    rintro e w2 ⟨XA, xc, rfl, hx2, hb2⟩
    have HX2 := Lib.hid hx2
    have HB2 := Lib.hid (HB1.out.trans (hb2.mono HB1.out.size))
    clear hx2 hb2
    go_wp2_with fail
    with_reducible refine (H2.out w2 HB2.out).mono ?_
    rintro e w3 ⟨YA, yc, rfl, hx3, hb3⟩
    have HX3 := Lib.hid (HX2.out.below hb3)
    have HY3 := Lib.hid hx3
    have HB3 := Lib.hid (HB2.out.trans (hb3.mono HB2.out.size))
    clear hx3 hb3
    go_wp2_with fail
    go_ret3
    exact ⟨XA, xc, YA, yc, rfl, HX3.out, HY3.out, HB3.out⟩
  · have HS : Hid (sides es = ([], [])) := Lib.hid (by unfold sides; rw [if_neg hc])
    rw [HS.out]
    clear hE HS hok
    generalize ck es = q at *
    have h0 : (q == 0) = false := beq_eq_false_iff_ne.2 hc
    have h1 : (q != 0) = true := by simp [bne, h0]
    clear hc
    go_enter Try.func40, Try.ntmps40
    go_wp2_with fail
    with_reducible refine (HC.out).mono ?_
    rintro e w1 ⟨rfl, hb1⟩
    go_wp2_with fail
    go_ret3
    exact ⟨none, 0, none, 0, rfl, fun h => absurd h (by simp), fun h => absurd h (by simp), hb1⟩
end Go.Proofs.Ytigghcmbdnidnaa.S

namespace Go.Proofs.Ytigghcmbdnidnaa.S
open Go.RowKit
open T
open V (grown_of IntsIn numCells numCells_snoc ints_own drawn_below)
open I (alloc1 own_at own_below)
open N (Ln)

def lyE (s : Int) (l : List Ln) : List Ed := if l = [] then [] else [(s, l)]
theorem grp_tag {s : Int} {l : List Ln} {Y : List Sl} (h : ∀ x r, Y = x :: r → x.1 ≠ s) : grp (tag s l ++ Y) = lyE s l ++ grp Y := by
  unfold lyE
  by_cases hl : l = []
  · subst hl; rfl
  · rw [if_neg hl, grp_run h (tag s l) (fun e => hl (by
      have := congrArg List.length e
      rw [tag_len] at this
      exact List.length_eq_zero_iff.1 this)) (fun x hx => by
      simp only [tag, List.mem_map] at hx
      obtain ⟨y, _, rfl⟩ := hx; rfl), tag_snd]
    rfl
structure Rst where
  r : List Ed
  k : List Ln
  g : List Ln
  m : List Ln
def rput (t : Rst) (e : Ed) : Rst := if e.1 = 1 then ⟨t.r, t.k ++ e.2, t.g, t.m⟩ else if e.1 = 2 then ⟨t.r, t.k, t.g ++ e.2, t.m⟩ else if e.1 = 3 then ⟨t.r, t.k, t.g, t.m ++ e.2⟩ else t
def rall (t : Rst) : List Ed := ((t.r ++ lyE 1 t.k) ++ lyE 2 t.g) ++ lyE 3 t.m
def rnst (t : Rst) (e : Ed) : Rst := if e.1 = 1 ∧ 0 < e.2.length ∧ 0 < t.g.length + t.m.length then rput ⟨rall t, [], [], []⟩ e else rput t e
def rnsts (es : List Ed) : Rst := es.foldl rnst ⟨[], [], [], []⟩
theorem rnsts_take {es : List Ed} {k : Nat} (hk : k < es.length) : rnsts (es.take (k + 1)) = rnst (rnsts (es.take k)) es[k] := by
  unfold rnsts
  rw [List.take_succ_eq_append_getElem hk, List.foldl_append]
  rfl
theorem head_tag {s t : Int} (hst : s ≠ t) {l : List Ln} {Y : List Sl} (h : ∀ x r, Y = x :: r → x.1 ≠ t) : ∀ x r, tag s l ++ Y = x :: r → x.1 ≠ t := by
  intro x r e
  cases l with
  | nil => exact h x r e
  | cons y l =>
    simp only [tag, List.map_cons, List.cons_append, List.cons.injEq] at e
    rw [← e.1]; exact hst
theorem head_tag1 {s t : Int} (hst : s ≠ t) {l : List Ln} (hl : 0 < l.length) {Y : List Sl} : ∀ x r, tag s l ++ Y = x :: r → x.1 ≠ t := by
  intro x r e
  cases l with
  | nil => simp at hl
  | cons y l =>
    simp only [tag, List.map_cons, List.cons_append, List.cons.injEq] at e
    rw [← e.1]; exact hst
theorem head_nil {t : Int} : ∀ (x : Sl) r, ([] : List Sl) = x :: r → x.1 ≠ t := fun x r e => by cases e
/-- How the reference's state and the code's go together. -/
structure Rel (t : Rst) (n : Nst) : Prop where
  o : n.o = t.g
  i : n.i = t.m
  d : ∀ X, grp (n.d ++ X) = t.r ++ grp (tag 1 t.k ++ X)
theorem rel_step {t : Rst} {n : Nst} {e : Ed} (h : Rel t n) (he : e.1 = 1 ∨ e.1 = 2 ∨ e.1 = 3) : Rel (rnst t e) (nst n e) := by
  obtain ⟨s, l⟩ := e
  obtain ⟨r, k, g, m⟩ := t
  obtain ⟨d, o, i⟩ := n
  obtain ⟨ho, hi, hd⟩ := h
  simp only at he ho hi hd
  subst ho hi
  rcases he with rfl | rfl | rfl
  · by_cases hl : l = []
    · subst hl
      refine ⟨?_, ?_, fun X => ?_⟩ <;> simp [rnst, nst, rput]
      exact hd X
    · have hl' : 0 < l.length := List.length_pos_iff.2 hl
      by_cases hgm : 0 < o.length + i.length
      · have e1 : nst ⟨d, o, i⟩ (1, l) = ⟨d ++ tag 2 o ++ tag 3 i ++ tag 1 l, [], []⟩ := by simp [nst, hl]
        have e2 : rnst ⟨r, k, o, i⟩ (1, l) = ⟨rall ⟨r, k, o, i⟩, l, [], []⟩ := by
          unfold rnst
          rw [if_pos ⟨rfl, hl', hgm⟩]
          simp [rput]
        rw [e1, e2]
        refine ⟨rfl, rfl, fun X => ?_⟩
        simp only
        rw [List.append_assoc, List.append_assoc, List.append_assoc, hd, grp_tag (l := k) (s := 1), grp_tag (l := o) (s := 2), grp_tag (l := i) (s := 3)]
        · simp [rall, List.append_assoc]
        · exact head_tag1 (by decide) hl'
        · exact head_tag (by decide) (head_tag1 (by decide) hl')
        · by_cases h0 : 0 < o.length
          · exact head_tag1 (by decide) h0
          · exact head_tag (by decide) (head_tag1 (by decide) (by omega))
      · have ho : o = [] := List.length_eq_zero_iff.1 (by omega)
        have hi : i = [] := List.length_eq_zero_iff.1 (by omega)
        subst ho hi
        refine ⟨?_, ?_, fun X => ?_⟩
        · simp [rnst, nst, rput, hl]
        · simp [rnst, nst, rput, hl]
        · have e1 : nst ⟨d, [], []⟩ (1, l) = ⟨d ++ tag 1 l, [], []⟩ := by simp [nst, hl, tag]
          have e2 : rnst ⟨r, k, [], []⟩ (1, l) = ⟨r, k ++ l, [], []⟩ := by simp [rnst, rput]
          rw [e1, e2]
          simp only
          rw [List.append_assoc, hd]
          simp [tag]
  · refine ⟨?_, ?_, fun X => ?_⟩ <;> simp [rnst, nst, rput]
    exact hd X
  · refine ⟨?_, ?_, fun X => ?_⟩ <;> simp [rnst, nst, rput]
    exact hd X
theorem rel_all : ∀ (es : List Ed) (t : Rst) (n : Nst), Rel t n → (∀ e ∈ es, e.1 = 1 ∨ e.1 = 2 ∨ e.1 = 3) → Rel (es.foldl rnst t) (es.foldl nst n)
  | [], _, _, h, _ => h
  | e :: es, t, n, h, he => rel_all es _ _ (rel_step h (he e (by simp))) (fun x hx => he x (by simp [hx]))
theorem rall_norm {es : List Ed} (h : ∀ e ∈ es, e.1 = 1 ∨ e.1 = 2 ∨ e.1 = 3) : rall (rnsts es) = norm es := by
  have hr := rel_all es ⟨[], [], [], []⟩ ⟨[], [], []⟩ ⟨rfl, rfl, fun X => rfl⟩ h
  change Rel (rnsts es) (nsts es) at hr
  unfold norm laid
  generalize rnsts es = t at *
  generalize nsts es = n at *
  obtain ⟨r, k, g, m⟩ := t
  obtain ⟨d, o, i⟩ := n
  obtain ⟨ho, hi, hd⟩ := hr
  simp only at ho hi hd
  subst ho hi
  simp only [rall]
  have e : tag 3 i = tag 3 i ++ [] := by simp
  rw [e, List.append_assoc d, hd, grp_tag (l := k) (s := 1), grp_tag (l := o) (s := 2), grp_tag (l := i) (s := 3) head_nil]
  · simp [grp, List.append_assoc]
  · exact head_tag (by decide) head_nil
  · exact head_tag (by decide) (head_tag (by decide) head_nil)
def rlen (t : Rst) : Nat := tl t.r + t.k.length + t.g.length + t.m.length
theorem tl_ly (s : Int) (l : List Ln) : tl (lyE s l) = l.length := by
  unfold lyE
  by_cases h : l = []
  · simp [h, tl]
  · simp [h, tl]
theorem rnst_len (t : Rst) (e : Ed) : rlen (rnst t e) ≤ rlen t + e.2.length := by
  have key : ∀ t, rlen (rput t e) ≤ rlen t + e.2.length := by
    intro t
    unfold rput rlen
    split
    · simp; omega
    · split
      · simp; omega
      · split
        · simp; omega
        · omega
  unfold rnst
  split
  · refine Nat.le_trans (key _) ?_
    simp only [rlen, rall, tl_app, tl_ly, List.length_nil]; omega
  · exact key t
theorem rnsts_len (es : List Ed) : rlen (rnsts es) ≤ tl es := by
  have key : ∀ (r : List Ed) (t : Rst), rlen (r.foldl rnst t) ≤ rlen t + tl r := by
    intro r
    induction r with
    | nil => intro t; simp [tl]
    | cons e r ih => intro t; rw [List.foldl_cons]; have h1 := ih (rnst t e); have h2 := rnst_len t e; have h3 : tl (e :: r) = e.2.length + tl r := by simp [tl]
                     omega
  have := key es ⟨[], [], [], []⟩
  simp only [rlen, tl, List.map_nil, List.sum_nil, List.length_nil] at this
  unfold rnsts rlen tl at *
  omega
theorem ly_len (s : Int) (l : List Ln) : (lyE s l).length ≤ 1 := by unfold lyE; split <;> simp
theorem rr_len (es : List Ed) : (rnsts es).r.length ≤ 3 * es.length := by
  have key : ∀ (r : List Ed) (t : Rst), (r.foldl rnst t).r.length ≤ t.r.length + 3 * r.length := by
    intro r
    induction r with
    | nil => intro t; simp
    | cons e r ih =>
      intro t
      rw [List.foldl_cons]
      have h1 := ih (rnst t e)
      have h2 : (rnst t e).r.length ≤ t.r.length + 3 := by
        have hp : ∀ t, (rput t e).r = t.r := by
          intro t
          unfold rput
          split
          · rfl
          · split
            · rfl
            · split <;> rfl
        unfold rnst
        split
        · rw [hp]
          simp only [rall, List.length_append]
          have := ly_len 1 t.k; have := ly_len 2 t.g; have := ly_len 3 t.m
          omega
        · rw [hp]; omega
      rw [List.length_cons]; omega
  have := key es ⟨[], [], [], []⟩
  simpa [rnsts] using this
end Go.Proofs.Ytigghcmbdnidnaa.S

namespace Go.Proofs.Ytigghcmbdnidnaa.S
open Go.RowKit
open T
open V (grown_of IntsIn numCells numCells_snoc ints_own drawn_below)
open I (alloc1 own_at own_below)
open N (Ln)

theorem lines_kept {w w' : World} {row : Option Nat} {A : Option Addr} {l : List Ln} (h : LinesIn w A l) (hg : w.grownBy w' row) (hne : ∀ p, A = some p → some p.block ≠ row) : LinesIn w' A l := fun hp => by
  obtain ⟨bk, off, e, hlt, hl⟩ := h hp
  exact ⟨bk, off, e, Nat.lt_of_lt_of_le hlt hg.size, fun j hj => ⟨hg.cell (hl j hj).1 (show some bk ≠ row from hne _ e), hg.cell (hl j hj).2 (show some bk ≠ row from hne _ e)⟩⟩
/-- A script that is laid, and three rows of lines: what of each other's memory is apart. -/
structure Rq (w0 w : World) (base : Nat) (vo vk vg vm : Value) (rs : List Raw) (es : List Ed) (k g m : List Ln) : Prop where
  o : w.ownsRow base 54 2 vo rs.length (rawCells rs)
  k : w.ownsRow base 59 2 vk k.length (lineCells k)
  g : w.ownsRow base 59 2 vg g.length (lineCells g)
  m : w.ownsRow base 59 2 vm m.length (lineCells m)
  kg : Apart vk vg
  km : Apart vk vm
  gm : Apart vg vm
  r : RawsOk 0 w rs es
  f : ∀ r ∈ rs, ∀ p, r.A = some p → p.block < w.heap.size ∧ vo.ownBlock ≠ some p.block ∧ vk.ownBlock ≠ some p.block ∧ vg.ownBlock ≠ some p.block ∧ vm.ownBlock ≠ some p.block
  b : Below w0.heap.size w0 w
  hb : w0.heap.size ≤ base
  hs : base ≤ w.heap.size
theorem RawsOk.kept {b : Nat} {w w' : World} {row : Option Nat} {rs : List Raw} {es : List Ed} (h : RawsOk b w rs es) (hg : w.grownBy w' row) (hne : ∀ r ∈ rs, ∀ p, r.A = some p → some p.block ≠ row) : RawsOk b w' rs es :=
  ⟨h.1, fun j h1 h2 => by
    have := h.2 j h1 h2
    exact ⟨this.d, this.n, lines_kept this.l hg (hne _ (List.getElem_mem h1)), this.c, this.z, this.b⟩⟩
theorem Rq.below {w0 w w' : World} {base : Nat} {vo vk vg vm : Value} {rs : List Raw} {es : List Ed} {k g m : List Ln} (h : Rq w0 w base vo vk vg vm rs es k g m) (hb : Below w.heap.size w w') : Rq w0 w' base vo vk vg vm rs es k g m :=
  ⟨own_below h.o hb, own_below h.k hb, own_below h.g hb, own_below h.m hb, h.kg, h.km, h.gm, h.r.below hb, fun r hr p hp => ⟨Nat.lt_of_lt_of_le (h.f r hr p hp).1 hb.size, (h.f r hr p hp).2⟩, h.b.trans (hb.mono h.b.size), h.hb, Nat.le_trans h.hs hb.size⟩
theorem Rq.rot {w0 w : World} {base : Nat} {vo vk vg vm : Value} {rs : List Raw} {es : List Ed} {k g m : List Ln} (h : Rq w0 w base vo vk vg vm rs es k g m) : Rq w0 w base vo vg vm vk rs es g m k :=
  ⟨h.o, h.g, h.m, h.k, h.gm, h.kg.symm, h.km.symm, h.r, fun r hr p hp => ⟨(h.f r hr p hp).1, (h.f r hr p hp).2.1, (h.f r hr p hp).2.2.2.1, (h.f r hr p hp).2.2.2.2, (h.f r hr p hp).2.2.1⟩, h.b, h.hb, h.hs⟩
theorem ne_new {v v' : Value} {n q : Nat} (hn : v'.ownBlock = v.ownBlock ∨ ∃ g, v'.ownBlock = some g ∧ n ≤ g) (h : v.ownBlock ≠ some q) (hq : q < n) : v'.ownBlock ≠ some q := by
  rcases hn with e | ⟨g, e, hg⟩
  · rw [e]; exact h
  · rw [e]; intro e2; injection e2 with e2; omega
theorem Rq.addK {w0 w w' : World} {base : Nat} {vo vk vg vm vk' : Value} {rs : List Raw} {es : List Ed} {k g m l : List Ln} (h : Rq w0 w base vo vk vg vm rs es k g m) (hg : w.grownBy w' vk.ownBlock) (ho : w'.ownsRow base 59 2 vk' (k ++ l).length (lineCells (k ++ l)))
    (hn : vk'.ownBlock = vk.ownBlock ∨ vk'.ownBlock = some w.heap.size) : Rq w0 w' base vo vk' vg vm rs es (k ++ l) g m := by
  have hn' : vk'.ownBlock = vk.ownBlock ∨ ∃ g, vk'.ownBlock = some g ∧ w.heap.size ≤ g := by
    rcases hn with e | e
    · exact .inl e
    · exact .inr ⟨_, e, Nat.le_refl _⟩
  exact ⟨own_grown h.o h.k (by decide) hg, ho, own_keep h.g hg h.kg, own_keep h.m hg h.km, Apart.new h.kg hn' (own_lt h.g), Apart.new h.km hn' (own_lt h.m), h.gm,
    h.r.kept hg (fun r hr p hp e => (h.f r hr p hp).2.2.1 e.symm), fun r hr p hp => by
      obtain ⟨f0, f1, f2, f3, f4⟩ := h.f r hr p hp
      exact ⟨Nat.lt_of_lt_of_le f0 hg.size, f1, ne_new hn' f2 f0, f3, f4⟩, h.b.grown hg h.b.size (fun q e => Nat.le_trans h.hb (own_base h.k q e)), h.hb, Nat.le_trans h.hs hg.size⟩
theorem Rq.addO {w0 w w1 w' : World} {base : Nat} {vo vk vg vm vo' : Value} {rs : List Raw} {es : List Ed} {k g m : List Ln} {r : Raw} {e : Ed} (h : Rq w0 w base vo vk vg vm rs es k g m) (hb : Below w.heap.size w w1) (hg : w1.grownBy w' vo.ownBlock) (ho : w'.ownsRow base 54 2 vo' (rs ++ [r]).length (rawCells (rs ++ [r])))
    (hn : vo'.ownBlock = vo.ownBlock ∨ vo'.ownBlock = some w1.heap.size) (hr : RawOk 0 w1 r e) (hf : ∀ p, r.A = some p → w.heap.size ≤ p.block ∧ p.block < w1.heap.size) : Rq w0 w' base vo' vk vg vm (rs ++ [r]) (es ++ [e]) k g m := by
  have h1 := h.below hb
  have hn' : vo'.ownBlock = vo.ownBlock ∨ ∃ g, vo'.ownBlock = some g ∧ w1.heap.size ≤ g := by
    rcases hn with e | e
    · exact .inl e
    · exact .inr ⟨_, e, Nat.le_refl _⟩
  have hlt : ∀ {v : Value} {e' : TypeId} {size n : Nat} {xs : List Value}, w.ownsRow base e' size v n xs → ∀ p, r.A = some p → v.ownBlock ≠ some p.block := fun hv p hp e => by
    have := own_lt hv _ e
    have := (hf p hp).1
    omega
  refine ⟨ho, own_grown h1.k h1.o (by decide) hg, own_grown h1.g h1.o (by decide) hg, own_grown h1.m h1.o (by decide) hg, h.kg, h.km, h.gm, ?_, ?_, h1.b.grown hg h1.b.size (fun q e => Nat.le_trans h.hb (own_base h.o q e)), h.hb, Nat.le_trans h1.hs hg.size⟩
  · refine (h1.r.snoc hr).kept hg (fun r' hr' p hp e => ?_)
    rcases List.mem_append.1 hr' with hr' | hr'
    · exact (h1.f r' hr' p hp).2.1 e.symm
    · obtain rfl := List.mem_singleton.1 hr'
      exact hlt h.o p hp e.symm
  · intro r' hr' p hp
    rcases List.mem_append.1 hr' with hr' | hr'
    · obtain ⟨f0, f1, f2, f3, f4⟩ := h1.f r' hr' p hp
      exact ⟨Nat.lt_of_lt_of_le f0 hg.size, ne_new hn' f1 f0, f2, f3, f4⟩
    · obtain rfl := List.mem_singleton.1 hr'
      have f0 := (hf p hp).2
      exact ⟨Nat.lt_of_lt_of_le f0 hg.size, ne_new hn' (hlt h.o p hp) f0, hlt h.k p hp, hlt h.g p hp, hlt h.m p hp⟩
theorem Rq.clear {w0 w : World} {base : Nat} {vo vk vg vm : Value} {rs : List Raw} {es : List Ed} {k g m : List Ln} (h : Rq w0 w base vo vk vg vm rs es k g m) : Rq w0 w base vo (.slice none 0 0) (.slice none 0 0) (.slice none 0 0) rs es [] [] [] :=
  ⟨h.o, World.ownsRow_nil _ _ _ _, World.ownsRow_nil _ _ _ _, World.ownsRow_nil _ _ _ _, Apart.nil _, Apart.nil _, Apart.nil _, h.r, fun r hr p hp => ⟨(h.f r hr p hp).1, (h.f r hr p hp).2.1, (fun e => by cases e), (fun e => by cases e), (fun e => by cases e)⟩, h.b, h.hb, h.hs⟩
/-- lay: one edit more, if it has lines. -/
def LyEnd (w0 : World) (base : Nat) (vk vg vm : Value) (es : List Ed) (k g m : List Ln) (e : Ending) (w' : World) : Prop :=
  ∃ A cap rs, e = .returned (.slice A rs.length cap) ∧ Rq w0 w' base (.slice A rs.length cap) vk vg vm rs es k g m

set_option maxRecDepth 100000 in
set_option maxHeartbeats 4000000 in
theorem lay_any (w0 w : World) (base : Nat) (oA : Option Addr) (ocap : Nat) (vk vg vm : Value) (rs : List Raw) (es : List Ed) (k g m : List Ln) (d : Int) (LA : Option Addr) (lc : Nat) (l : List Ln) (h : Rq w0 w base (.slice oA rs.length ocap) vk vg vm rs es k g m)
    (hL : LinesIn w LA l) (hn : LA = none → lc = 0) (hl : l.length ≤ 1000) (hr : rs.length ≤ 10000) :
    Calls Try.prog 43 #[.slice oA rs.length ocap, .int .i64 d, .slice LA l.length lc] w (LyEnd w0 base vk vg vm (es ++ lyE d l) k g m) := by
  obtain ⟨i0, hi0, hz0, hz1, hz2⟩ := info_parts infoEdit
  have H := Lib.hid h
  have HL := Lib.hid hL
  have HN := Lib.hid hn
  clear h hL hn
  by_cases h0 : l.length = 0
  · have hb0 : ((l.length : Int) == 0) = true := by simp [h0]
    have HLE : Hid (lyE d l = []) := Lib.hid (by unfold lyE; rw [if_pos (List.length_eq_zero_iff.1 h0)])
    rw [HLE.out, List.append_nil]
    obtain ⟨n, hn⟩ : ∃ n, n = l.length := ⟨_, rfl⟩
    rw [← hn] at h0 hb0 ⊢
    clear hn
    subst h0
    clear hb0
    go_enter Try.func43, Try.ntmps43
    go_wp2_with fail
    go_ret
    exact ⟨oA, ocap, rs, rfl, H.out⟩
  · have hb0 : ((l.length : Int) == 0) = false := by simpa using h0
    have hp : 0 < l.length := by omega
    have HLE : Hid (lyE d l = [(d, l)]) := Lib.hid (by unfold lyE; rw [if_neg (fun e => h0 (by rw [e]; rfl))])
    rw [HLE.out]
    have HB0 := Lib.hid (alloc1 w (.cells #[] 59))
    have HO0 : Hid ((w.alloc (.cells #[] 59)).ownsRow w.heap.size 59 2 (.slice (some ⟨w.heap.size, 0, none⟩) 0 0) ([] : List Ln).length (lineCells [])) := Lib.hid (World.ownsRow_made (size := 2) (e := 59) w #[] 0 (Nat.le_refl _) (by unfold maxLen; omega) rfl)
    have HL0 := Lib.hid (HL.out.below HB0.out)
    have hs0 : w.heap.size ≤ (w.alloc (.cells #[] 59)).heap.size := HB0.out.size
    have HE : Hid (∀ (w1 w4 : World) (NA : Option Addr) (nc : Nat) (v' : Value), w1.ownsRow w.heap.size 59 2 (.slice NA l.length nc) l.length (lineCells l) → Below w.heap.size w w1 → w4.ownsRow base 54 2 v' (rs.length + 1) (rawCells rs ++ [.int .i64 d, .slice NA l.length nc]) → (w1.alloc (.cells #[.int .i64 d, .slice NA l.length nc] 54)).grownBy w4 (Value.slice oA rs.length ocap).ownBlock → (v'.ownBlock = (Value.slice oA rs.length ocap).ownBlock ∨ v'.ownBlock = some (w1.alloc (.cells #[.int .i64 d, .slice NA l.length nc] 54)).heap.size) → LyEnd w0 base vk vg vm (es ++ [(d, l)]) k g m (.returned v') w4) := Lib.hid (fun w1 w4 NA nc v' ho1 hb1 ho4 hg4 hat4 => by
      have hb2 : Below w.heap.size w (w1.alloc (.cells #[.int .i64 d, .slice NA l.length nc] 54)) := hb1.trans ((alloc1 w1 _).mono hb1.size)
      have ho4' : w4.ownsRow base 54 2 v' (rs ++ [Raw.mk d NA l.length nc]).length (rawCells (rs ++ [Raw.mk d NA l.length nc])) := by rw [List.length_append, rawCells_app]; exact ho4
      obtain ⟨_, _, he1, hnc, -⟩ := own_form ho1
      injection he1 with _ _ he1
      subst he1
      have hro : RawOk 0 (w1.alloc (.cells #[.int .i64 d, .slice NA l.length nc] 54)) (Raw.mk d NA l.length nc) (d, l) := ⟨rfl, rfl, (own_lines ho1).below (alloc1 w1 _), hnc, (fun e => by simp only at e; subst e; exact own_none ho1), (fun p _ => Nat.zero_le _)⟩
      have hq := H.out.addO hb2 hg4 ho4' hat4 hro (fun p hp => by
        obtain ⟨q1, q2⟩ := own_addr ho1 p hp
        exact ⟨q2, Nat.lt_of_lt_of_le (own_lt ho1 _ q1) (alloc1 w1 _).size⟩)
      obtain ⟨VA, vc, rfl, -, -⟩ := own_form ho4'
      exact ⟨VA, vc, _, rfl, hq⟩)
    clear h0
    go_enter Try.func43, Try.ntmps43
    go_upto_region 3 with fail
    go_wp2_with ((first | (at_builtin; refine wpList_append_lines (w := w.alloc (.cells #[] 59)) rfl (.tmp 13) (.tmp 14) rfl w.heap.size (.slice (some ⟨w.heap.size, 0, none⟩) 0 0) [] l rfl HO0.out LA lc rfl HL0.out HN.out (by simp; omega) hs0 ?_; intro v1 w1 ho1 hg1 hat1; rw [List.nil_append] at ho1; obtain ⟨NA, nc, rfl, -, -⟩ := own_form ho1; have HO1 := Lib.hid ho1; have HB1 : Hid (Below w.heap.size w w1) := Lib.hid (HB0.out.grown hg1 hs0 (fun q e => own_base HO0.out q e)); have HV1 := Lib.hid (own_below H.out.o HB1.out); have hbr1 : base ≤ w1.heap.size := Nat.le_trans H.out.hs HB1.out.size; clear ho1 hg1 hat1) | (at_builtin; refine wpList_append_own_at _ rfl (.tmp 11) (.tmp 17) 40 rfl base 54 i0 _ 2 32 Try.underlying40 hi0 hz0 hz1 hz2 rfl (by decide) (.slice oA rs.length ocap) rs.length (rawCells rs) rfl (HV1.out.alloc _) ⟨w1.heap.size, 0, none⟩ 1 1 [.int .i64 d, .slice NA l.length nc] rfl rfl (World.news_of_block (heap_alloc_new w1 _)) (by intro u hu; simp at hu; rcases hu with rfl | rfl <;> rfl) (by simp only [maxLen]; omega) (by omega) (by simp; omega) ?_; intro v' w4 hown4 hg4 _ hat4; have HX4 := Lib.hid (HE.out w1 w4 NA nc v' HO1.out HB1.out hown4 hg4 hat4); clear hown4 hg4 hat4)))
    go_ret
    exact HX4.out
end Go.Proofs.Ytigghcmbdnidnaa.S

namespace Go.Proofs.Ytigghcmbdnidnaa.S
open Go.RowKit
open T
open V (grown_of IntsIn numCells numCells_snoc ints_own drawn_below)
open I (alloc1 own_at own_below)
open N (Ln)

theorem Rq.start (w0 w1 : World) (hb : Below w0.heap.size w0 w1) : Rq w0 ((((w1.alloc (.cells #[] 54)).alloc (.cells #[] 59)).alloc (.cells #[] 59)).alloc (.cells #[] 59)) w1.heap.size (.slice (some ⟨w1.heap.size, 0, none⟩) 0 0) (.slice (some ⟨w1.heap.size + 1, 0, none⟩) 0 0) (.slice (some ⟨w1.heap.size + 1 + 1, 0, none⟩) 0 0) (.slice (some ⟨w1.heap.size + 1 + 1 + 1, 0, none⟩) 0 0) [] [] [] [] [] := by
  have made : ∀ (W : World) (t : TypeId) (n : Nat), W.heap.size = n → w1.heap.size ≤ n → (W.alloc (.cells #[] t)).ownsRow w1.heap.size t 2 (.slice (some ⟨n, 0, none⟩) 0 0) 0 [] := fun W t n hn hw => by
    subst hn
    exact World.ownsRow_made (size := 2) (e := t) W #[] 0 hw (by unfold maxLen; omega) rfl
  have ap : ∀ a b : Nat, a ≠ b → Apart (.slice (some ⟨a, 0, none⟩) 0 0) (.slice (some ⟨b, 0, none⟩) 0 0) := fun a b h k hk hk' => by
    simp only [Value.ownBlock, Option.some.injEq] at hk hk'
    omega
  refine ⟨(((made w1 54 _ rfl (Nat.le_refl _)).alloc _).alloc _).alloc _, ((made _ 59 _ (by simp) (by omega)).alloc _).alloc _, (made _ 59 _ (by simp) (by omega)).alloc _, made _ 59 _ (by simp) (by omega), ap _ _ (by omega), ap _ _ (by omega), ap _ _ (by omega), RawsOk.nil _ _, fun r hr => by simp at hr, ?_, hb.size, by simp; omega⟩
  exact (((hb.alloc hb.size _).alloc (by have := hb.size; simp; omega) _).alloc (by have := hb.size; simp; omega) _).alloc (by have := hb.size; simp; omega) _
/-- A script and an error, to be read. -/
def RnEnd (w : World) (r : List Ed) (e0 : Int) (e : Ending) (w' : World) : Prop :=
  ∃ A cap, e = .returned (.tuple #[.slice A r.length cap, .int .i64 e0]) ∧ EdsIn 0 w' A r ∧ Below w.heap.size w w'
theorem NrEnd.read {w : World} {r : List Ed} {e0 : Int} {e : Ending} {w' : World} (h : NrEnd w r e0 e w') : RnEnd w r e0 e w' := by
  obtain ⟨A, cap, h1, h2, h3⟩ := h
  exact ⟨A, cap, h1, h2.1.low (Nat.zero_le _), h3⟩
theorem edit_in {b : Nat} {w : World} {A : Option Addr} {es : List Ed} {k : Nat} (h : EdsIn b w A es) (hk : k < es.length) :
    ∃ bk off LA lc, A = some ⟨bk, off, none⟩ ∧ (∀ W, Below w.heap.size w W → W.cell? ⟨bk, off + k * 2, none⟩ = some (.int .i64 es[k].1) ∧ W.cell? ⟨bk, off + k * 2 + 1, none⟩ = some (.slice LA es[k].2.length lc)) ∧ LinesIn w LA es[k].2 ∧ (LA = none → lc = 0) := by
  obtain ⟨bk, off, hA, -, hbk, hI⟩ := h (by omega)
  obtain ⟨LA, lc, g0, g1, g2, g3, g4, -⟩ := hI k hk
  exact ⟨bk, off, LA, lc, hA, fun W hb => ⟨(hb.cell (p := ⟨bk, off + k * 2, none⟩) hbk).trans g0, (hb.cell (p := ⟨bk, off + k * 2 + 1, none⟩) hbk).trans g1⟩, g2, g4⟩

set_option maxRecDepth 100000 in
set_option maxHeartbeats 4000000 in
theorem rnormal_bad (A : Option Addr) (c b : Nat) (es : List Ed) (w : World) (hE : EdsIn b w A es) (hok : EdsOk es) (hc : ck es ≠ 0) :
    Calls Try.prog 32 #[.slice A es.length c] w (RnEnd w [] (ck es)) := by
  have HC := Lib.hid (rcheck_any A c b es w hE hok)
  generalize ck es = q at *
  have h0 : (q == 0) = false := beq_eq_false_iff_ne.2 hc
  have h1 : (q != 0) = true := by simp [bne, h0]
  clear hE hok hc
  go_enter Try.func32, Try.ntmps32
  go_wp2_with fail
  with_reducible refine (HC.out).mono ?_
  rintro e w1 ⟨rfl, hb1⟩
  go_wp2_with fail
  go_ret2
  exact ⟨none, 0, rfl, fun h => absurd h (by simp), hb1⟩
set_option maxRecDepth 100000 in
set_option maxHeartbeats 8000000 in
theorem rnormal_good (A : Option Addr) (c b : Nat) (es : List Ed) (w : World) (hE : EdsIn b w A es) (hok : EdsOk es) (hc : ck es = 0) :
    Calls Try.prog 32 #[.slice A es.length c] w (RnEnd w (norm es) 0) := by
  have HC := Lib.hid (rcheck_any A c b es w hE hok)
  rw [hc] at HC
  obtain ⟨hel, htl, hd3⟩ := ck_ok hc
  have HE := Lib.hid hE
  have HD3 := Lib.hid hd3
  clear hE hok hc hd3
  go_enter Try.func32, Try.ntmps32
  go_wp2_with fail
  with_reducible refine (HC.out).mono ?_
  rintro e w1 ⟨rfl, hb1⟩
  have HQ0 := Lib.hid (Rq.start w w1 hb1)
  obtain ⟨base, hbase⟩ : ∃ n, n = w1.heap.size := ⟨_, rfl⟩
  clear hb1 HC
  go_wp2_with fail
  rw [← hbase] at HQ0 ⊢
  clear hbase
  go_loopg [5, 6, 7, 8, 9] es.length (fun m vo vk vg vm iv wr => ∃ (k : Nat) (rs : List Raw) (t : Rst), k ≤ es.length ∧ iv = .int .i64 k ∧ es.length - k ≤ m ∧ Hid (t = rnsts (es.take k)) ∧ Hid (Rq w wr base vo vk vg vm rs t.r t.k t.g t.m))
  case atStart => exact ⟨0, [], ⟨[], [], [], []⟩, Nat.zero_le _, rfl, by omega, Lib.hid rfl, HQ0⟩
  case round =>
    clear HQ0
    obtain ⟨k, rs, ⟨rr, rk, rg, rm⟩, hk, rfl, hmm, HT, HQ⟩ := hrel
    simp only at HQ
    obtain ⟨oA, ocap, rfl, -, -⟩ := own_form HQ.out.o
    obtain ⟨kA, kcap, rfl, -, -⟩ := own_form HQ.out.k
    obtain ⟨gA, gcap, rfl, -, -⟩ := own_form HQ.out.g
    obtain ⟨mA, mcap, rfl, -, -⟩ := own_form HQ.out.m
    have hrl : rs.length ≤ 3 * 800 ∧ rk.length + rg.length + rm.length ≤ 800 := by
      have h1 := rnsts_len (es.take k)
      have h2 := tl_le es k
      have h3 := rr_len (es.take k)
      have h4 : (es.take k).length ≤ es.length := by rw [List.length_take]; omega
      have h5 := HQ.out.r.1
      rw [← HT.out] at h1 h3
      simp only [rlen] at h1 h3
      omega
    have hrl1 := hrl.1
    have hrl2 := hrl.2
    clear hrl
    by_cases hlt : k < es.length
    · obtain ⟨bk, off, LA, lc, hAe, hcc, g2, g4⟩ := edit_in HE.out hlt
      subst hAe
      obtain ⟨c0, c1⟩ := hcc wr HQ.out.b
      have HCC := Lib.hid hcc
      have HL0 := Lib.hid g2
      have HLN := Lib.hid g4
      have hel4 : es[k].2.length ≤ 800 := by have := tl_take hlt; have := tl_le es (k + 1); omega
      have HNS : Hid (rnsts (es.take (k + 1)) = rnst ⟨rr, rk, rg, rm⟩ es[k]) := Lib.hid (by rw [rnsts_take hlt, ← HT.out])
      have H3 := HD3.out _ (List.getElem_mem hlt)
      generalize es[k] = e at *
      obtain ⟨d, l⟩ := e
      simp only at c0 c1 hel4 H3 HCC HL0 HLN
      have HL1 := Lib.hid (HL0.out.below HQ.out.b)
      have hbr := HQ.out.hs
      have h0k : (0 : Int) ≤ (k : Int) := by omega
      have hki : (k : Int) < (es.length : Int) := by omega
      clear hcc g2 g4 HT
      rcases H3 with rfl | rfl | rfl
      · by_cases hl0 : l.length = 0
        · have hz : decide (0 < l.length) = false := decide_eq_false (by omega)
          have hz2 : ¬ 0 < l.length := by omega
          have HNT : Hid (rnst ⟨rr, rk, rg, rm⟩ (1, l) = ⟨rr, rk ++ l, rg, rm⟩) := Lib.hid (by unfold rnst; rw [if_neg (by simp only; omega)]; rfl)
          obtain ⟨n, hn⟩ : ∃ n, n = l.length := ⟨_, rfl⟩
          have HLE := Lib.hid hn
          clear hn hl0
          go_wp2_with (at_builtin; refine wpList_append_lines (w := wr) rfl (.tmp 62) (.tmp 67) rfl base (.slice kA rk.length kcap) rk l rfl HQ.out.k LA lc rfl HL1.out HLN.out (by omega) hbr ?_; intro v' w4 ho4 hg4 hat4; have HQ4 := Lib.hid (HQ.out.addK hg4 ho4 hat4); clear ho4 hg4 hat4)
          go_roundg (es.length - (k + 1))
          case rel => exact ⟨k + 1, _, _, by omega, by go_num, Nat.le_refl _, Lib.hid (by rw [HNS.out, HNT.out]), HQ4⟩
          case measure => omega
        · by_cases hgm : rg.length + rm.length = 0
          · have hz : decide (0 < l.length) = true := decide_eq_true (by omega)
            have hz2 : 0 < l.length := by omega
            have hg0 : rg.length = 0 := by omega
            have hm0 : rm.length = 0 := by omega
            have HNT : Hid (rnst ⟨rr, rk, rg, rm⟩ (1, l) = ⟨rr, rk ++ l, rg, rm⟩) := Lib.hid (by unfold rnst; rw [if_neg (by simp only; omega)]; rfl)
            obtain rfl := List.length_eq_zero_iff.1 hg0
            obtain rfl := List.length_eq_zero_iff.1 hm0
            clear hl0 hgm hg0 hm0
            go_wp2_with (at_builtin; refine wpList_append_lines (w := wr) rfl (.tmp 62) (.tmp 67) rfl base (.slice kA rk.length kcap) rk l rfl HQ.out.k LA lc rfl HL1.out HLN.out (by omega) hbr ?_; intro v' w4 ho4 hg4 hat4; have HQ4 := Lib.hid (HQ.out.addK hg4 ho4 hat4); clear ho4 hg4 hat4)
            go_roundg (es.length - (k + 1))
            case rel => exact ⟨k + 1, _, _, by omega, by go_num, Nat.le_refl _, Lib.hid (by rw [HNS.out, HNT.out]), HQ4⟩
            case measure => omega
          · have hz : decide (0 < l.length) = true := decide_eq_true (by omega)
            have hz2 : 0 < l.length := by omega
            have hs : 0 < rg.length + rm.length := by omega
            have hs1 : decide (0 < rg.length + rm.length) = true := decide_eq_true hs
            have hs2 : (0 : Int) < (rg.length : Int) + (rm.length : Int) := by omega
            have hs3 : decide ((0 : Int) < (rg.length : Int) + (rm.length : Int)) = true := decide_eq_true hs2
            have HNT : Hid (rnst ⟨rr, rk, rg, rm⟩ (1, l) = ⟨rall ⟨rr, rk, rg, rm⟩, l, [], []⟩) := Lib.hid (by unfold rnst; rw [if_pos ⟨rfl, hz2, hs⟩]; simp [rput])
            clear hl0 hgm
            go_wp2_with fail
            with_reducible refine (lay_any w wr base oA ocap (.slice kA rk.length kcap) (.slice gA rg.length gcap) (.slice mA rm.length mcap) rs rr rk rg rm 1 kA kcap rk HQ.out (own_lines HQ.out.k) (fun e => by subst e; exact own_none HQ.out.k) (by omega) (by omega)).mono ?_
            rintro e w2 ⟨pA, pcap, rs2, rfl, hq2⟩
            have HQ2 := Lib.hid hq2
            have hl2 : rs2.length ≤ 2401 := by have h1 := hq2.r.1; rw [List.length_append, ← HQ.out.r.1] at h1; have := ly_len 1 rk; omega
            clear hq2
            go_wp2_with fail
            with_reducible refine (lay_any w w2 base pA pcap (.slice kA rk.length kcap) (.slice gA rg.length gcap) (.slice mA rm.length mcap) rs2 (rr ++ lyE 1 rk) rk rg rm 2 gA gcap rg HQ2.out (own_lines HQ2.out.g) (fun e => by subst e; exact own_none HQ2.out.g) (by omega) (by omega)).mono ?_
            rintro e w3 ⟨qA, qcap, rs3, rfl, hq3⟩
            have HQ3 := Lib.hid hq3
            have hl3 : rs3.length ≤ 2402 := by have h1 := hq3.r.1; rw [List.length_append, ← HQ2.out.r.1] at h1; have := ly_len 2 rg; omega
            clear hq3
            go_wp2_with fail
            with_reducible refine (lay_any w w3 base qA qcap (.slice kA rk.length kcap) (.slice gA rg.length gcap) (.slice mA rm.length mcap) rs3 ((rr ++ lyE 1 rk) ++ lyE 2 rg) rk rg rm 3 mA mcap rm HQ3.out (own_lines HQ3.out.m) (fun e => by subst e; exact own_none HQ3.out.m) (by omega) (by omega)).mono ?_
            rintro e w4 ⟨sA, scap, rs4, rfl, hq4⟩
            have HQ4 := Lib.hid hq4
            clear hq4
            clear c0 c1
            obtain ⟨c0, c1⟩ := HCC.out w4 HQ4.out.b
            have HQ5 := Lib.hid HQ4.out.clear
            have HL5 := Lib.hid (HL0.out.below HQ4.out.b)
            have hbr5 := HQ5.out.hs
            go_wp2_with (at_builtin; refine wpList_append_lines (w := w4) rfl (.tmp 62) (.tmp 67) rfl base (.slice none 0 0) [] l rfl HQ5.out.k LA lc rfl HL5.out HLN.out (by simp; omega) hbr5 ?_; intro v' w5 ho5 hg5 hat5; have HQ6 := Lib.hid (HQ5.out.addK hg5 ho5 hat5); clear ho5 hg5 hat5)
            go_roundg (es.length - (k + 1))
            case rel => exact ⟨k + 1, _, _, by omega, by go_num, Nat.le_refl _, Lib.hid (by rw [HNS.out, HNT.out]), HQ6⟩
            case measure => omega
      · have HNT : Hid (rnst ⟨rr, rk, rg, rm⟩ (2, l) = ⟨rr, rk, rg ++ l, rm⟩) := Lib.hid (by unfold rnst; rw [if_neg (by simp)]; rfl)
        go_wp2_with (at_builtin; refine wpList_append_lines (w := wr) rfl (.tmp 71) (.tmp 76) rfl base (.slice gA rg.length gcap) rg l rfl HQ.out.g LA lc rfl HL1.out HLN.out (by omega) hbr ?_; intro v' w4 ho4 hg4 hat4; have HQ4 := Lib.hid (((HQ.out.rot.addK hg4 ho4 hat4).rot).rot); clear ho4 hg4 hat4)
        go_roundg (es.length - (k + 1))
        case rel => exact ⟨k + 1, _, _, by omega, by go_num, Nat.le_refl _, Lib.hid (by rw [HNS.out, HNT.out]), HQ4⟩
        case measure => omega
      · have HNT : Hid (rnst ⟨rr, rk, rg, rm⟩ (3, l) = ⟨rr, rk, rg, rm ++ l⟩) := Lib.hid (by unfold rnst; rw [if_neg (by simp)]; rfl)
        go_wp2_with (at_builtin; refine wpList_append_lines (w := wr) rfl (.tmp 80) (.tmp 85) rfl base (.slice mA rm.length mcap) rm l rfl HQ.out.m LA lc rfl HL1.out HLN.out (by omega) hbr ?_; intro v' w4 ho4 hg4 hat4; have HQ4 := Lib.hid ((HQ.out.rot.rot.addK hg4 ho4 hat4).rot); clear ho4 hg4 hat4)
        go_roundg (es.length - (k + 1))
        case rel => exact ⟨k + 1, _, _, by omega, by go_num, Nat.le_refl _, Lib.hid (by rw [HNS.out, HNT.out]), HQ4⟩
        case measure => omega
    · obtain rfl : k = es.length := by omega
      rw [List.take_length] at HT
      go_wp2_with fail
      with_reducible refine (lay_any w wr base oA ocap (.slice kA rk.length kcap) (.slice gA rg.length gcap) (.slice mA rm.length mcap) rs rr rk rg rm 1 kA kcap rk HQ.out (own_lines HQ.out.k) (fun e => by subst e; exact own_none HQ.out.k) (by omega) (by omega)).mono ?_
      rintro e w2 ⟨pA, pcap, rs2, rfl, hq2⟩
      have HQ2 := Lib.hid hq2
      have hl2 : rs2.length ≤ 2401 := by have h1 := hq2.r.1; rw [List.length_append, ← HQ.out.r.1] at h1; have := ly_len 1 rk; omega
      clear hq2
      go_wp2_with fail
      with_reducible refine (lay_any w w2 base pA pcap (.slice kA rk.length kcap) (.slice gA rg.length gcap) (.slice mA rm.length mcap) rs2 (rr ++ lyE 1 rk) rk rg rm 2 gA gcap rg HQ2.out (own_lines HQ2.out.g) (fun e => by subst e; exact own_none HQ2.out.g) (by omega) (by omega)).mono ?_
      rintro e w3 ⟨qA, qcap, rs3, rfl, hq3⟩
      have HQ3 := Lib.hid hq3
      have hl3 : rs3.length ≤ 2402 := by have h1 := hq3.r.1; rw [List.length_append, ← HQ2.out.r.1] at h1; have := ly_len 2 rg; omega
      clear hq3
      go_wp2_with fail
      with_reducible refine (lay_any w w3 base qA qcap (.slice kA rk.length kcap) (.slice gA rg.length gcap) (.slice mA rm.length mcap) rs3 ((rr ++ lyE 1 rk) ++ lyE 2 rg) rk rg rm 3 mA mcap rm HQ3.out (own_lines HQ3.out.m) (fun e => by subst e; exact own_none HQ3.out.m) (by omega) (by omega)).mono ?_
      rintro e w4 ⟨sA, scap, rs4, rfl, hq4⟩
      have HQ4 := Lib.hid hq4
      clear hq4
      have HRA : Hid (((rr ++ lyE 1 rk) ++ lyE 2 rg) ++ lyE 3 rm = norm es) := Lib.hid (by
        have := rall_norm HD3.out
        rw [← HT.out] at this
        exact this)
      have HR : Hid (EdsIn 0 w4 sA (norm es)) := Lib.hid (by
        have ho := HQ4.out.o
        have hr := HQ4.out.r
        have hl := hr.1
        rw [HRA.out] at hr hl
        rw [hl] at ho
        exact raws_eds ho hr (Nat.zero_le _))
      have HRL : Hid (rs4.length = (norm es).length) := Lib.hid (by rw [← HRA.out]; exact HQ4.out.r.1)
      have HB4 := Lib.hid HQ4.out.b
      go_wp2_with fail
      go_ret2
      exact ⟨sA, scap, by rw [HRL.out]; rfl, HR.out, HB4.out⟩
end Go.Proofs.Ytigghcmbdnidnaa.S
