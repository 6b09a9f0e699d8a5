/-
  What the reference's Normal comes to.
  What the reference's Invert comes to, and its Same on equal scripts; Normal and Invert in one form each.
  The reference's Same on a script and its like.
-/
import Derived.Test.YtimalohdchhjgaaGse
namespace Go.Proofs.Ytimalohdchhjgaa.S
open Go.RowKit
open T
open V (grown_of IntsIn numCells numCells_snoc ints_own drawn_below)
open I (alloc1 own_at own_below)
open N (Ln)

theorem Rq.start (w0 w1 : World) (hb : Below w0.heap.size w0 w1) : Rq w0 ((((w1.alloc (.cells #[] 47)).alloc (.cells #[] 51)).alloc (.cells #[] 51)).alloc (.cells #[] 51)) w1.heap.size (.slice (some ⟨w1.heap.size, 0, none⟩) 0 0) (.slice (some ⟨w1.heap.size + 1, 0, none⟩) 0 0) (.slice (some ⟨w1.heap.size + 1 + 1, 0, none⟩) 0 0) (.slice (some ⟨w1.heap.size + 1 + 1 + 1, 0, none⟩) 0 0) [] [] [] [] [] := by
  have made : ∀ (W : World) (t : TypeId) (n : Nat), W.heap.size = n → w1.heap.size ≤ n → (W.alloc (.cells #[] t)).ownsRow w1.heap.size t 2 (.slice (some ⟨n, 0, none⟩) 0 0) 0 [] := fun W t n hn hw => by
    subst hn
    exact World.ownsRow_made (size := 2) (e := t) W #[] 0 hw (by unfold maxLen; omega) rfl
  have ap : ∀ a b : Nat, a ≠ b → Apart (.slice (some ⟨a, 0, none⟩) 0 0) (.slice (some ⟨b, 0, none⟩) 0 0) := fun a b h k hk hk' => by
    simp only [Value.ownBlock, Option.some.injEq] at hk hk'
    omega
  refine ⟨(((made w1 47 _ rfl (Nat.le_refl _)).alloc _).alloc _).alloc _, ((made _ 51 _ (by simp) (by omega)).alloc _).alloc _, (made _ 51 _ (by simp) (by omega)).alloc _, made _ 51 _ (by simp) (by omega), ap _ _ (by omega), ap _ _ (by omega), ap _ _ (by omega), RawsOk.nil _ _, fun r hr => by simp at hr, ?_, hb.size, by simp; omega⟩
  exact (((hb.alloc hb.size _).alloc (by have := hb.size; simp; omega) _).alloc (by have := hb.size; simp; omega) _).alloc (by have := hb.size; simp; omega) _
/-- A script and an error, to be read. -/
def RnEnd (w : World) (r : List Ed) (e0 : Int) (e : Ending) (w' : World) : Prop :=
  ∃ A cap, e = .returned (.tuple #[.slice A r.length cap, .int .i64 e0]) ∧ EdsIn 0 w' A r ∧ Below w.heap.size w w'
theorem NrEnd.read {w : World} {r : List Ed} {e0 : Int} {e : Ending} {w' : World} (h : NrEnd w r e0 e w') : RnEnd w r e0 e w' := by
  obtain ⟨A, cap, h1, h2, h3⟩ := h
  exact ⟨A, cap, h1, h2.low (Nat.zero_le _), h3⟩
theorem edit_in {b : Nat} {w : World} {A : Option Addr} {es : List Ed} {k : Nat} (h : EdsIn b w A es) (hk : k < es.length) :
    ∃ bk off LA lc, A = some ⟨bk, off, none⟩ ∧ (∀ W, Below w.heap.size w W → W.cell? ⟨bk, off + k * 2, none⟩ = some (.int .i64 es[k].1) ∧ W.cell? ⟨bk, off + k * 2 + 1, none⟩ = some (.slice LA es[k].2.length lc)) ∧ LinesIn w LA es[k].2 ∧ (LA = none → lc = 0) := by
  obtain ⟨bk, off, hA, -, hbk, hI⟩ := h (by omega)
  obtain ⟨LA, lc, g0, g1, g2, g3, g4, -⟩ := hI k hk
  exact ⟨bk, off, LA, lc, hA, fun W hb => ⟨(hb.cell (p := ⟨bk, off + k * 2, none⟩) hbk).trans g0, (hb.cell (p := ⟨bk, off + k * 2 + 1, none⟩) hbk).trans g1⟩, g2, g4⟩

set_option maxRecDepth 100000 in
set_option maxHeartbeats 4000000 in
theorem rnormal_bad (A : Option Addr) (c b : Nat) (es : List Ed) (w : World) (hE : EdsIn b w A es) (hok : EdsOk es) (hc : ck es ≠ 0) :
    Calls Try.prog 18 #[.slice A es.length c] w (RnEnd w [] (ck es)) := by
  have HC := Lib.hid (rcheck_any A c b es w hE hok)
  generalize ck es = q at *
  have h0 : (q == 0) = false := beq_eq_false_iff_ne.2 hc
  have h1 : (q != 0) = true := by simp [bne, h0]
  clear hE hok hc
  go_enter Try.func18, Try.ntmps18
  go_wp2_with fail
  with_reducible refine (HC.out).mono ?_
  rintro e w1 ⟨rfl, hb1⟩
  go_wp2_with fail
  go_ret2
  exact ⟨none, 0, rfl, fun h => absurd h (by simp), hb1⟩
set_option maxRecDepth 100000 in
set_option maxHeartbeats 8000000 in
theorem rnormal_good (A : Option Addr) (c b : Nat) (es : List Ed) (w : World) (hE : EdsIn b w A es) (hok : EdsOk es) (hc : ck es = 0) :
    Calls Try.prog 18 #[.slice A es.length c] w (RnEnd w (norm es) 0) := by
  have HC := Lib.hid (rcheck_any A c b es w hE hok)
  rw [hc] at HC
  obtain ⟨hel, htl, hd3⟩ := ck_ok hc
  have HE := Lib.hid hE
  have HD3 := Lib.hid hd3
  clear hE hok hc hd3
  go_enter Try.func18, Try.ntmps18
  go_wp2_with fail
  with_reducible refine (HC.out).mono ?_
  rintro e w1 ⟨rfl, hb1⟩
  have HQ0 := Lib.hid (Rq.start w w1 hb1)
  obtain ⟨base, hbase⟩ : ∃ n, n = w1.heap.size := ⟨_, rfl⟩
  clear hb1 HC
  go_wp2_with fail
  rw [← hbase] at HQ0 ⊢
  clear hbase
  go_loopg [5, 6, 7, 8, 9] es.length (fun m vo vk vg vm iv wr => ∃ (k : Nat) (rs : List Raw) (t : Rst), k ≤ es.length ∧ iv = .int .i64 k ∧ es.length - k ≤ m ∧ Hid (t = rnsts (es.take k)) ∧ Hid (Rq w wr base vo vk vg vm rs t.r t.k t.g t.m))
  case atStart => exact ⟨0, [], ⟨[], [], [], []⟩, Nat.zero_le _, rfl, by omega, Lib.hid rfl, HQ0⟩
  case round =>
    clear HQ0
    obtain ⟨k, rs, ⟨rr, rk, rg, rm⟩, hk, rfl, hmm, HT, HQ⟩ := hrel
    simp only at HQ
    obtain ⟨oA, ocap, rfl, -, -⟩ := own_form HQ.out.o
    obtain ⟨kA, kcap, rfl, -, -⟩ := own_form HQ.out.k
    obtain ⟨gA, gcap, rfl, -, -⟩ := own_form HQ.out.g
    obtain ⟨mA, mcap, rfl, -, -⟩ := own_form HQ.out.m
    have hrl : rs.length ≤ 3 * 800 ∧ rk.length + rg.length + rm.length ≤ 800 := by
      have h1 := rnsts_len (es.take k)
      have h2 := tl_le es k
      have h3 := rr_len (es.take k)
      have h4 : (es.take k).length ≤ es.length := by rw [List.length_take]; omega
      have h5 := HQ.out.r.1
      rw [← HT.out] at h1 h3
      simp only [rlen] at h1 h3
      omega
    have hrl1 := hrl.1
    have hrl2 := hrl.2
    clear hrl
    by_cases hlt : k < es.length
    · obtain ⟨bk, off, LA, lc, hAe, hcc, g2, g4⟩ := edit_in HE.out hlt
      subst hAe
      obtain ⟨c0, c1⟩ := hcc wr HQ.out.b
      have HCC := Lib.hid hcc
      have HL0 := Lib.hid g2
      have HLN := Lib.hid g4
      have hel4 : es[k].2.length ≤ 800 := by have := tl_take hlt; have := tl_le es (k + 1); omega
      have HNS : Hid (rnsts (es.take (k + 1)) = rnst ⟨rr, rk, rg, rm⟩ es[k]) := Lib.hid (by rw [rnsts_take hlt, ← HT.out])
      have H3 := HD3.out _ (List.getElem_mem hlt)
      generalize es[k] = e at *
      obtain ⟨d, l⟩ := e
      simp only at c0 c1 hel4 H3 HCC HL0 HLN
      have HL1 := Lib.hid (HL0.out.below HQ.out.b)
      have hbr := HQ.out.hs
      have h0k : (0 : Int) ≤ (k : Int) := by omega
      have hki : (k : Int) < (es.length : Int) := by omega
      clear hcc g2 g4 HT
      rcases H3 with rfl | rfl | rfl
      · by_cases hl0 : l.length = 0
        · have hz : decide (0 < l.length) = false := decide_eq_false (by omega)
          have hz2 : ¬ 0 < l.length := by omega
          have HNT : Hid (rnst ⟨rr, rk, rg, rm⟩ (1, l) = ⟨rr, rk ++ l, rg, rm⟩) := Lib.hid (by unfold rnst; rw [if_neg (by simp only; omega)]; rfl)
          obtain ⟨n, hn⟩ : ∃ n, n = l.length := ⟨_, rfl⟩
          have HLE := Lib.hid hn
          clear hn hl0
          go_wp2_with (at_builtin; refine wpList_append_lines (w := wr) rfl (.tmp 62) (.tmp 67) rfl base (.slice kA rk.length kcap) rk l rfl HQ.out.k LA lc rfl HL1.out HLN.out (by omega) hbr ?_; intro v' w4 ho4 hg4 hat4; have HQ4 := Lib.hid (HQ.out.addK hg4 ho4 hat4); clear ho4 hg4 hat4)
          go_roundg (es.length - (k + 1))
          case rel => exact ⟨k + 1, _, _, by omega, by go_num, Nat.le_refl _, Lib.hid (by rw [HNS.out, HNT.out]), HQ4⟩
          case measure => omega
        · by_cases hgm : rg.length + rm.length = 0
          · have hz : decide (0 < l.length) = true := decide_eq_true (by omega)
            have hz2 : 0 < l.length := by omega
            have hg0 : rg.length = 0 := by omega
            have hm0 : rm.length = 0 := by omega
            have HNT : Hid (rnst ⟨rr, rk, rg, rm⟩ (1, l) = ⟨rr, rk ++ l, rg, rm⟩) := Lib.hid (by unfold rnst; rw [if_neg (by simp only; omega)]; rfl)
            obtain rfl := List.length_eq_zero_iff.1 hg0
            obtain rfl := List.length_eq_zero_iff.1 hm0
            clear hl0 hgm hg0 hm0
            go_wp2_with (at_builtin; refine wpList_append_lines (w := wr) rfl (.tmp 62) (.tmp 67) rfl base (.slice kA rk.length kcap) rk l rfl HQ.out.k LA lc rfl HL1.out HLN.out (by omega) hbr ?_; intro v' w4 ho4 hg4 hat4; have HQ4 := Lib.hid (HQ.out.addK hg4 ho4 hat4); clear ho4 hg4 hat4)
            go_roundg (es.length - (k + 1))
            case rel => exact ⟨k + 1, _, _, by omega, by go_num, Nat.le_refl _, Lib.hid (by rw [HNS.out, HNT.out]), HQ4⟩
            case measure => omega
          · have hz : decide (0 < l.length) = true := decide_eq_true (by omega)
            have hz2 : 0 < l.length := by omega
            have hs : 0 < rg.length + rm.length := by omega
            have hs1 : decide (0 < rg.length + rm.length) = true := decide_eq_true hs
            have hs2 : (0 : Int) < (rg.length : Int) + (rm.length : Int) := by omega
            have hs3 : decide ((0 : Int) < (rg.length : Int) + (rm.length : Int)) = true := decide_eq_true hs2
            have HNT : Hid (rnst ⟨rr, rk, rg, rm⟩ (1, l) = ⟨rall ⟨rr, rk, rg, rm⟩, l, [], []⟩) := Lib.hid (by unfold rnst; rw [if_pos ⟨rfl, hz2, hs⟩]; simp [rput])
            clear hl0 hgm
            go_wp2_with fail
            with_reducible refine (lay_any w wr base oA ocap (.slice kA rk.length kcap) (.slice gA rg.length gcap) (.slice mA rm.length mcap) rs rr rk rg rm 1 kA kcap rk HQ.out (own_lines HQ.out.k) (fun e => by subst e; exact own_none HQ.out.k) (by omega) (by omega)).mono ?_
            rintro e w2 ⟨pA, pcap, rs2, rfl, hq2⟩
            have HQ2 := Lib.hid hq2
            have hl2 : rs2.length ≤ 2401 := by have h1 := hq2.r.1; rw [List.length_append, ← HQ.out.r.1] at h1; have := ly_len 1 rk; omega
            clear hq2
            go_wp2_with fail
            with_reducible refine (lay_any w w2 base pA pcap (.slice kA rk.length kcap) (.slice gA rg.length gcap) (.slice mA rm.length mcap) rs2 (rr ++ lyE 1 rk) rk rg rm 2 gA gcap rg HQ2.out (own_lines HQ2.out.g) (fun e => by subst e; exact own_none HQ2.out.g) (by omega) (by omega)).mono ?_
            rintro e w3 ⟨qA, qcap, rs3, rfl, hq3⟩
            have HQ3 := Lib.hid hq3
            have hl3 : rs3.length ≤ 2402 := by have h1 := hq3.r.1; rw [List.length_append, ← HQ2.out.r.1] at h1; have := ly_len 2 rg; omega
            clear hq3
            go_wp2_with fail
            with_reducible refine (lay_any w w3 base qA qcap (.slice kA rk.length kcap) (.slice gA rg.length gcap) (.slice mA rm.length mcap) rs3 ((rr ++ lyE 1 rk) ++ lyE 2 rg) rk rg rm 3 mA mcap rm HQ3.out (own_lines HQ3.out.m) (fun e => by subst e; exact own_none HQ3.out.m) (by omega) (by omega)).mono ?_
            rintro e w4 ⟨sA, scap, rs4, rfl, hq4⟩
            have HQ4 := Lib.hid hq4
            clear hq4
            clear c0 c1
            obtain ⟨c0, c1⟩ := HCC.out w4 HQ4.out.b
            have HQ5 := Lib.hid HQ4.out.clear
            have HL5 := Lib.hid (HL0.out.below HQ4.out.b)
            have hbr5 := HQ5.out.hs
            go_wp2_with (at_builtin; refine wpList_append_lines (w := w4) rfl (.tmp 62) (.tmp 67) rfl base (.slice none 0 0) [] l rfl HQ5.out.k LA lc rfl HL5.out HLN.out (by simp; omega) hbr5 ?_; intro v' w5 ho5 hg5 hat5; have HQ6 := Lib.hid (HQ5.out.addK hg5 ho5 hat5); clear ho5 hg5 hat5)
            go_roundg (es.length - (k + 1))
            case rel => exact ⟨k + 1, _, _, by omega, by go_num, Nat.le_refl _, Lib.hid (by rw [HNS.out, HNT.out]), HQ6⟩
            case measure => omega
      · have HNT : Hid (rnst ⟨rr, rk, rg, rm⟩ (2, l) = ⟨rr, rk, rg ++ l, rm⟩) := Lib.hid (by unfold rnst; rw [if_neg (by simp)]; rfl)
        go_wp2_with (at_builtin; refine wpList_append_lines (w := wr) rfl (.tmp 71) (.tmp 76) rfl base (.slice gA rg.length gcap) rg l rfl HQ.out.g LA lc rfl HL1.out HLN.out (by omega) hbr ?_; intro v' w4 ho4 hg4 hat4; have HQ4 := Lib.hid (((HQ.out.rot.addK hg4 ho4 hat4).rot).rot); clear ho4 hg4 hat4)
        go_roundg (es.length - (k + 1))
        case rel => exact ⟨k + 1, _, _, by omega, by go_num, Nat.le_refl _, Lib.hid (by rw [HNS.out, HNT.out]), HQ4⟩
        case measure => omega
      · have HNT : Hid (rnst ⟨rr, rk, rg, rm⟩ (3, l) = ⟨rr, rk, rg, rm ++ l⟩) := Lib.hid (by unfold rnst; rw [if_neg (by simp)]; rfl)
        go_wp2_with (at_builtin; refine wpList_append_lines (w := wr) rfl (.tmp 80) (.tmp 85) rfl base (.slice mA rm.length mcap) rm l rfl HQ.out.m LA lc rfl HL1.out HLN.out (by omega) hbr ?_; intro v' w4 ho4 hg4 hat4; have HQ4 := Lib.hid ((HQ.out.rot.rot.addK hg4 ho4 hat4).rot); clear ho4 hg4 hat4)
        go_roundg (es.length - (k + 1))
        case rel => exact ⟨k + 1, _, _, by omega, by go_num, Nat.le_refl _, Lib.hid (by rw [HNS.out, HNT.out]), HQ4⟩
        case measure => omega
    · obtain rfl : k = es.length := by omega
      rw [List.take_length] at HT
      go_wp2_with fail
      with_reducible refine (lay_any w wr base oA ocap (.slice kA rk.length kcap) (.slice gA rg.length gcap) (.slice mA rm.length mcap) rs rr rk rg rm 1 kA kcap rk HQ.out (own_lines HQ.out.k) (fun e => by subst e; exact own_none HQ.out.k) (by omega) (by omega)).mono ?_
      rintro e w2 ⟨pA, pcap, rs2, rfl, hq2⟩
      have HQ2 := Lib.hid hq2
      have hl2 : rs2.length ≤ 2401 := by have h1 := hq2.r.1; rw [List.length_append, ← HQ.out.r.1] at h1; have := ly_len 1 rk; omega
      clear hq2
      go_wp2_with fail
      with_reducible refine (lay_any w w2 base pA pcap (.slice kA rk.length kcap) (.slice gA rg.length gcap) (.slice mA rm.length mcap) rs2 (rr ++ lyE 1 rk) rk rg rm 2 gA gcap rg HQ2.out (own_lines HQ2.out.g) (fun e => by subst e; exact own_none HQ2.out.g) (by omega) (by omega)).mono ?_
      rintro e w3 ⟨qA, qcap, rs3, rfl, hq3⟩
      have HQ3 := Lib.hid hq3
      have hl3 : rs3.length ≤ 2402 := by have h1 := hq3.r.1; rw [List.length_append, ← HQ2.out.r.1] at h1; have := ly_len 2 rg; omega
      clear hq3
      go_wp2_with fail
      with_reducible refine (lay_any w w3 base qA qcap (.slice kA rk.length kcap) (.slice gA rg.length gcap) (.slice mA rm.length mcap) rs3 ((rr ++ lyE 1 rk) ++ lyE 2 rg) rk rg rm 3 mA mcap rm HQ3.out (own_lines HQ3.out.m) (fun e => by subst e; exact own_none HQ3.out.m) (by omega) (by omega)).mono ?_
      rintro e w4 ⟨sA, scap, rs4, rfl, hq4⟩
      have HQ4 := Lib.hid hq4
      clear hq4
      have HRA : Hid (((rr ++ lyE 1 rk) ++ lyE 2 rg) ++ lyE 3 rm = norm es) := Lib.hid (by
        have := rall_norm HD3.out
        rw [← HT.out] at this
        exact this)
      have HR : Hid (EdsIn 0 w4 sA (norm es)) := Lib.hid (by
        have ho := HQ4.out.o
        have hr := HQ4.out.r
        have hl := hr.1
        rw [HRA.out] at hr hl
        rw [hl] at ho
        exact raws_eds ho hr (Nat.zero_le _))
      have HRL : Hid (rs4.length = (norm es).length) := Lib.hid (by rw [← HRA.out]; exact HQ4.out.r.1)
      have HB4 := Lib.hid HQ4.out.b
      go_wp2_with fail
      go_ret2
      exact ⟨sA, scap, by rw [HRL.out]; rfl, HR.out, HB4.out⟩
end Go.Proofs.Ytimalohdchhjgaa.S

namespace Go.Proofs.Ytimalohdchhjgaa.S
open Go.RowKit
open T
open V (grown_of IntsIn numCells numCells_snoc ints_own drawn_below)
open I (alloc1 own_at own_below)
open N (Ln)

theorem rnormal_any (A : Option Addr) (c b : Nat) (es : List Ed) (w : World) (hE : EdsIn b w A es) (hok : EdsOk es) :
    Calls Try.prog 18 #[.slice A es.length c] w (RnEnd w (nrm es) (ck es)) := by
  unfold nrm
  by_cases hc : ck es = 0
  · rw [if_pos hc, hc]; exact rnormal_good A c b es w hE hok hc
  · rw [if_neg hc]; exact rnormal_bad A c b es w hE hok hc
theorem normal_any (A : Option Addr) (c b : Nat) (es : List Ed) (w : World) (hE : EdsIn b w A es) (hok : EdsOk es) :
    Calls Try.prog 23 #[.slice A es.length c] w (NrEnd w (nrm es) (ck es)) := by
  unfold nrm
  by_cases hc : ck es = 0
  · rw [if_pos hc, hc]; exact normal_good A c b es w hE hok hc
  · rw [if_neg hc]; exact normal_bad A c b es w hE hok hc
theorem EdsOk.iv {es : List Ed} (h : EdsOk es) : EdsOk (es.map iv) := ⟨by rw [List.length_map]; exact h.len, fun e he => by
  obtain ⟨x, hx, rfl⟩ := List.mem_map.1 he
  exact h.ls x hx⟩
theorem take_riv {rs : List Raw} {k : Nat} (hk : k < rs.length) : rawCells ((rs.take k).map riv) ++ [.int .i64 (tn rs[k].d), .slice rs[k].A rs[k].n rs[k].c] = rawCells ((rs.take (k + 1)).map riv) := by
  rw [List.take_succ_eq_append_getElem hk, List.map_append, rawCells_app]
  rfl

end Go.Proofs.Ytimalohdchhjgaa.S

namespace Go.Proofs.Ytimalohdchhjgaa.S
open Go.RowKit
open T
open V (grown_of IntsIn numCells numCells_snoc ints_own drawn_below)
open I (alloc1 own_at own_below)
open N (Ln)

set_option maxHeartbeats 1000000 in
set_option maxRecDepth 100000 in
theorem rsame_q (A A' : Option Addr) (cap cap' : Nat) (xs : List Ln) (w : World) (hb : xs.length ≤ maxLen) (hA : LinesIn w A xs) (hA' : LinesIn w A' xs) :
    Calls Try.prog 31 #[.slice A xs.length cap, .slice A' xs.length cap'] w fun e w' => e = .returned (.bool true) ∧ ∃ m, w' = w.drewN m := by
  unfold maxLen at hb
  have HA := Lib.hid hA
  have HB := Lib.hid hA'
  clear hA hA'
  have hne : ((xs.length : Int) != (xs.length : Int)) = false := by simp
  go_enter Try.func31, Try.ntmps31
  go_wp2_with fail
  go_loopg [5] xs.length (fun n i wr => ∃ k : Nat, k ≤ xs.length ∧ i = .int .i64 k ∧ xs.length - k ≤ n ∧ ∃ q, wr = w.drewN q)
  case atStart => exact ⟨0, Nat.zero_le _, rfl, by omega, 0, rfl⟩
  case round =>
    obtain ⟨k, hk, rfl, hn, q, rfl⟩ := hrel
    by_cases hlt : k < xs.length
    · obtain ⟨bk, off, hAe, hbk, hL⟩ := HA.out (by omega)
      obtain ⟨bk', off', hAe', hbk', hL'⟩ := HB.out (by omega)
      subst hAe hAe'
      obtain ⟨c0, c1⟩ := hL k hlt
      obtain ⟨d0, d1⟩ := hL' k hlt
      have h0k : (0 : Int) ≤ (k : Int) := Int.natCast_nonneg _
      have h1k : (k : Int) < (xs.length : Int) := by omega
      clear hL hL'
      generalize xs[k].2 = b at *
      generalize xs[k].1 = t at *
      go_wp2_with fail
      go_quiet (fail)
      go_wp2_with fail
      go_roundg (xs.length - (k + 1))
      case measure => omega
      case rel => exact ⟨k + 1, by omega, by go_num, Nat.le_refl _, _, rfl⟩
    · obtain rfl : k = xs.length := by omega
      go_wp2_with fail
      go_ret
      exact ⟨rfl, q, rfl⟩
set_option maxHeartbeats 2000000 in
set_option maxRecDepth 100000 in
theorem esame_any (A B : Option Addr) (c c' : Nat) (es : List Ed) (w : World) (hok : EdsOk es) (hA : EdsIn 0 w A es) (hB : EdsIn 0 w B es) :
    Calls Try.prog 15 #[.slice A es.length c, .slice B es.length c'] w fun e w' => e = .returned (.bool true) ∧ ∃ m, w' = w.drewN m := by
  have hl := hok.len
  have HLS := Lib.hid hok.ls
  unfold maxLen at hl
  have HA := Lib.hid hA
  have HB := Lib.hid hB
  clear hA hB hok
  have hne : ((es.length : Int) != (es.length : Int)) = false := by simp
  go_enter Try.func15, Try.ntmps15
  go_wp2_with fail
  go_loopg [5] es.length (fun n i wr => ∃ k : Nat, k ≤ es.length ∧ i = .int .i64 k ∧ es.length - k ≤ n ∧ Hid (∃ q, wr = w.drewN q))
  case atStart => exact ⟨0, Nat.zero_le _, rfl, by omega, Lib.hid ⟨0, rfl⟩⟩
  case round =>
    obtain ⟨k, hk, rfl, hn, HQ⟩ := hrel
    by_cases hlt : k < es.length
    · have hbw : Below w.heap.size w wr := by obtain ⟨q, rfl⟩ := HQ.out; exact drawn_below w q
      obtain ⟨bk, off, LA, lc, hAe, c0, c1, g2, -⟩ := edit_at HA.out hbw hlt
      obtain ⟨bk', off', LB, lc', hBe, d0, d1, g3, -⟩ := edit_at HB.out hbw hlt
      subst hAe hBe
      have hll := HLS.out _ (List.getElem_mem hlt)
      have HC : Hid (∀ n, Calls Try.prog 31 #[.slice LA es[k].2.length lc, .slice LB es[k].2.length lc'] (wr.drewN n) fun e w' => e = .returned (.bool true) ∧ ∃ m, w' = (wr.drewN n).drewN m) := Lib.hid (fun n => rsame_q LA LB lc lc' es[k].2 (wr.drewN n) hll ((g2.below hbw).below (drawn_below wr n)) ((g3.below hbw).below (drawn_below wr n)))
      have h0k : (0 : Int) ≤ (k : Int) := Int.natCast_nonneg _
      have h1k : (k : Int) < (es.length : Int) := by omega
      clear hbw g2 g3 hll
      generalize es[k].2 = l at *
      generalize es[k].1 = d at *
      have hnd : (d != d) = false := by simp
      go_wp2_with fail
      go_quiet ((go_at_call 31; exact Calls.quiet_of (HC.out _)))
      go_wp2_with fail
      go_roundg (es.length - (k + 1))
      case measure => omega
      case rel => exact ⟨k + 1, by omega, by go_num, Nat.le_refl _, Lib.hid (by obtain ⟨q, rfl⟩ := HQ.out; exact ⟨_, World.drewN_drewN _ _ _⟩)⟩
    · obtain rfl : k = es.length := by omega
      go_wp2_with fail
      go_ret
      exact ⟨rfl, HQ.out⟩
end Go.Proofs.Ytimalohdchhjgaa.S
