/-
  The contract of item's read.
  The contract of item's Parse.
-/
import Derived.Test.YtadhhamfikpimaaDoorGid
import Derived.Test.YtadhhamfikpimaaDoorGia
namespace Go.Proofs.YtadhhamfikpimaaDoor.I
set_option linter.unusedVariables false
set_option linter.unusedSimpArgs false
open Go.RowKit
open T
open O (own_ne grown_of grown_set ne_type)

/-- What lines come to. -/
def ReadEnd (w : World) (lo : Nat) (o : List It ⊕ (Nat × Nat)) (e : Ending) (w' : World) : Prop :=
  match o with
  | .inl l => (∃ iv, e = .returned (.tuple #[iv, .int .i64 0, .int .i64 0]) ∧ w'.ownsRow lo 53 6 iv l.length (itCells l)) ∧ Below lo w w'
  | .inr x => e = .returned (.tuple #[.slice none 0 0, .int .i64 (x.1 : Int), .int .i64 (x.2 : Int)]) ∧ Below lo w w'
/-- What read has laid ahead of the lines: the reader's box, and its results. -/
structure Laid (w wB : World) (rb : Nat) : Prop where
  b : wB.heap[w.heap.size]? = some (.cells #[.pointer (some ⟨rb, 0, none⟩)] 118 (0, 0))
  i : wB.heap[w.heap.size + 1]? = some (.cells #[.slice none 0 0] 46 (0, 0))
  l : wB.heap[w.heap.size + 2]? = some (.cells #[.int .i64 0] 3 (0, 0))
  e : wB.heap[w.heap.size + 3]? = some (.cells #[.int .i64 0] 27 (0, 0))
  size : wB.heap.size = w.heap.size + 4
  below : Below w.heap.size w wB
theorem laid (w : World) (rb : Nat) : Laid w ((((w.alloc (.cells #[.pointer (some ⟨rb, 0, none⟩)] 118)).alloc (.cells #[.slice none 0 0] 46)).alloc (.cells #[.int .i64 0] 3)).alloc (.cells #[.int .i64 0] 27)) rb := by
  obtain ⟨w1, h1⟩ : ∃ w1, w1 = w.alloc (.cells #[.pointer (some ⟨rb, 0, none⟩)] 118) := ⟨_, rfl⟩
  obtain ⟨w2, h2⟩ : ∃ w2, w2 = w1.alloc (.cells #[.slice none 0 0] 46) := ⟨_, rfl⟩
  obtain ⟨w3, h3⟩ : ∃ w3, w3 = w2.alloc (.cells #[.int .i64 0] 3) := ⟨_, rfl⟩
  obtain ⟨w4, h4⟩ : ∃ w4, w4 = w3.alloc (.cells #[.int .i64 0] 27) := ⟨_, rfl⟩
  rw [← h1, ← h2, ← h3, ← h4]
  have s1 : w1.heap.size = w.heap.size + 1 := by rw [h1]; simp
  have s2 : w2.heap.size = w.heap.size + 2 := by rw [h2]; simp; omega
  have s3 : w3.heap.size = w.heap.size + 3 := by rw [h3]; simp; omega
  have s4 : w4.heap.size = w.heap.size + 4 := by rw [h4]; simp; omega
  have b1 : Below w.heap.size w w1 := by rw [h1]; exact alloc1 _ _
  have b2 : Below w1.heap.size w1 w2 := by rw [h2]; exact alloc1 _ _
  have b3 : Below w2.heap.size w2 w3 := by rw [h3]; exact alloc1 _ _
  have b4 : Below w3.heap.size w3 w4 := by rw [h4]; exact alloc1 _ _
  have p1 : w1.heap[w.heap.size]? = some (.cells #[.pointer (some ⟨rb, 0, none⟩)] 118 (0, 0)) := by rw [h1]; exact heap_alloc_new w _
  have p2 : w2.heap[w1.heap.size]? = some (.cells #[.slice none 0 0] 46 (0, 0)) := by rw [h2]; exact heap_alloc_new w1 _
  have p3 : w3.heap[w2.heap.size]? = some (.cells #[.int .i64 0] 3 (0, 0)) := by rw [h3]; exact heap_alloc_new w2 _
  have p4 : w4.heap[w3.heap.size]? = some (.cells #[.int .i64 0] 27 (0, 0)) := by rw [h4]; exact heap_alloc_new w3 _
  refine ⟨?_, ?_, ?_, ?_, s4, ((b1.trans (b2.mono (by omega))).trans (b3.mono (by omega))).trans (b4.mono (by omega))⟩
  · exact (b4.block _ (by omega)).trans ((b3.block _ (by omega)).trans ((b2.block _ (by omega)).trans p1))
  · rw [s1] at p2
    exact (b4.block _ (by omega)).trans ((b3.block _ (by omega)).trans p2)
  · rw [s2] at p3
    exact (b4.block _ (by omega)).trans p3
  · rw [s3] at p4
    exact p4

theorem takeAll_some {n0 n1 : Int} {s t : Ps} {k : Nat} {ls : List (List UInt8 × Bool)} (hk : k < ls.length) (h : take n0 n1 (k + 1) s ls[k] = .inl t) : takeAll n0 n1 s k (ls.drop k) = takeAll n0 n1 t (k + 1) (ls.drop (k + 1)) := by
  rw [List.drop_eq_getElem_cons hk, takeAll, h]
theorem takeAll_none {n0 n1 : Int} {s : Ps} {k e : Nat} {ls : List (List UInt8 × Bool)} (hk : k < ls.length) (h : take n0 n1 (k + 1) s ls[k] = .inr e) : takeAll n0 n1 s k (ls.drop k) = .inr (k + 1, e) := by
  rw [List.drop_eq_getElem_cons hk, takeAll, h]
theorem fine_of {n0 n1 : Int} {fl : Lb} {k : Nat} {s : Ps} (h : Good n0 n1 fl k s) (hf : fl.2 < 18446744073709551616) (hk : k ≤ 4000000) : Fine s (k + 1) := by
  refine ⟨h.stk.ne, h.stk.few, ?_, h.len, by have := h.con; omega, by omega, fun h0 h1 => ?_⟩
  · rcases h.fit _ (top_mem h.stk) with e | ⟨_, _, h3⟩
    · rw [e]; exact hf
    · exact h3
  · obtain ⟨x, hx, _⟩ := h.last h0 (by omega)
    intro e
    rw [e] at hx; cases hx
/-- A line's fault, taken back. -/
theorem read_fell {w2 wB : World} {z : Zone} {rb bx ib lb eb line k : Nat} (HBX : wB.heap[bx]? = some (.cells #[.pointer (some ⟨rb, 0, none⟩)] 118 (0, 0))) (HI : wB.heap[ib]? = some (.cells #[.slice none 0 0] 46 (0, 0))) (HL : wB.heap[lb]? = some (.cells #[.int .i64 0] 3 (0, 0))) (HE : wB.heap[eb]? = some (.cells #[.int .i64 0] 27 (0, 0))) (n1 : rb < bx) (n2 : bx < ib) (n3 : ib < lb) (n4 : lb < eb) (hza : z.a ≤ bx) (hzb : eb < z.b) (hk : Kp z wB w2) (hc : w2.cell? ⟨rb, 11, none⟩ = some (.int .i64 (line : Int))) :
    CallsD Tryd.prog 87 #[.pointer (some ⟨bx, 0, none⟩), .pointer (some ⟨ib, 0, none⟩), .pointer (some ⟨lb, 0, none⟩), .pointer (some ⟨eb, 0, none⟩)] (.panicking (fault k)) w2 fun e u' w' =>
      e = .returned (.tuple #[]) ∧ u' = .panicking [{ v := .iface 27 (.int .i64 (k : Int)), recovered := true }] ∧ Caught w2 ib lb eb line k w' :=
  catch_panicking rb bx ib lb eb line k w2 (L.blk_cell ((hk.2 bx (by omega) (by omega)).trans HBX) 0) hc ((hk.2 _ (by omega) (by omega)).trans HI) ((hk.2 _ (by omega) (by omega)).trans HL) ((hk.2 _ (by omega) (by omega)).trans HE) (by omega) (by omega) (by omega) (by omega) (by omega) (by omega) (by omega) (by omega) (by omega)
theorem Rd.rezone {w wB : World} {lo rb line g cap a b : Nat} {q : PV} {s : Ps} (h : Rd w ⟨lo, 0, 0⟩ rb q s line g cap (.slice none 0 0)) (hb : Below w.heap.size w wB) (h1 : b ≤ wB.heap.size) (h2 : rb < a) (h3 : g < a) : Rd wB ⟨lo, a, b⟩ rb q s line g cap (.slice none 0 0) := by
  have h' := h.below hb
  exact ⟨⟨h'.hb.1, by simp only; omega⟩, h1, h'.blk, h'.stk, ⟨h'.gz.1, by simp only; omega⟩, h'.gne, h'.gni, (fun k hk => by cases hk), h'.its⟩
theorem below_lo {w wB w2 : World} {z : Zone} {B : Nat} (hb : Below B w wB) (hk : Kp z wB w2) (h : z.lo ≤ B) : Below z.lo w w2 := (hb.mono h).trans hk.1

set_option maxRecDepth 100000 in
set_option maxHeartbeats 4000000 in
theorem read_any (A : Option Addr) (cap : Nat) (ls : List (List UInt8 × Bool)) (w : World) (lo hr rb g cap0 : Nat) (q : PV) (fl : Lb) (hfl : fl.2 < 18446744073709551616) (hlo : lo ≤ hr) (hhr : hr ≤ w.heap.size) (hrb : rb < hr) (hg : g < hr) (hA : LinesFrom w A ls hr) (hn : ls.length ≤ 32769) (ht : ∀ x ∈ ls, x.1.length ≤ 32768) (hrt : ∀ x ∈ ls, (10 : UInt8) ∉ x.1 ∧ (x.2 = true → x.1 ≠ [])) (hT : Tab w) (hgl : 1 < lo)
    (hR : Rd w ⟨lo, 0, 0⟩ rb q (Ps.start fl) 0 g cap0 (.slice none 0 0)) :
    Calls Tryd.prog 62 #[.pointer (some ⟨rb, 0, none⟩), .slice A ls.length cap] w (ReadEnd w lo (readAll q.n0 q.n1 fl ls)) := by
  have hmf : ∀ (fn : Fn) (first cap : Array Value) (w : World), (Instr.makeFunc fn first cap).run Tryd.prog w = .ok (.func fn first cap) w := fun _ _ _ _ => rfl
  have HA := Lib.hid hA
  have HTX := Lib.hid ht
  have HRT := Lib.hid hrt
  have HTB := Lib.hid hT
  have HLD := Lib.hid (laid w rb)
  have HR0 := Lib.hid hR
  clear hA ht hT hR hrt
  go_enter_defers Tryd.func62, Tryd.ntmps62
  go_wp2_with fail
  have hL := HLD.out
  generalize hwB : ((((w.alloc (Obj.cells #[.pointer (some ⟨rb, 0, none⟩)] 118)).alloc (.cells #[.slice none 0 0] 46)).alloc (.cells #[.int .i64 0] 3)).alloc (.cells #[.int .i64 0] 27)) = wB at hL ⊢
  clear hwB HLD
  obtain ⟨hbx, hi, hl, he, hsz, hbel⟩ := hL
  have hi' : wB.heap[w.heap.size + 1]? = some (.cells #[.slice none 0 0] 46 (0, 0)) := hi
  have hl' : wB.heap[w.heap.size + 1 + 1]? = some (.cells #[.int .i64 0] 3 (0, 0)) := hl
  have he' : wB.heap[w.heap.size + 1 + 1 + 1]? = some (.cells #[.int .i64 0] 27 (0, 0)) := he
  clear hi hl he
  generalize heb : w.heap.size + 1 + 1 + 1 = eb at *
  generalize hlb : w.heap.size + 1 + 1 = lb at *
  generalize hib : w.heap.size + 1 = ib at *
  have hzz : eb + 1 = wB.heap.size := by omega
  have n2 : w.heap.size < ib := by omega
  have n3 : ib < lb := by omega
  have n4 : lb < eb := by omega
  have n1 : rb < w.heap.size := by omega
  obtain ⟨z, hz⟩ : ∃ z : Zone, z = ⟨lo, hr, eb + 1⟩ := ⟨_, rfl⟩
  have HR1 : Hid (Rd wB z rb q (Ps.start fl) 0 g cap0 (.slice none 0 0)) := Lib.hid (by rw [hz]; exact HR0.out.rezone hbel (by omega) hrb hg)
  have za : z.a = hr := by rw [hz]
  have zb : z.b = eb + 1 := by rw [hz]
  have zl : z.lo = lo := by rw [hz]
  clear hz
  have HBX := Lib.hid hbx
  have HI := Lib.hid hi'
  have HL := Lib.hid hl'
  have HE := Lib.hid he'
  have HBEL := Lib.hid hbel
  have HSZ := Lib.hid hzz
  clear heb hlb hib hbx hi' hl' he' hbel hmf hsz HR0 hzz
  have HGT : Hid (∀ W : World, Kp z wB W → Tab W) := Lib.hid fun W hk => HTB.out.below (below_lo HBEL.out hk (by omega)) (by omega)
  generalize hbq : w.heap.size = bx at *
  have HBQ := Lib.hid hbq
  clear hbq
  go_loopg [12] ls.length (fun m i wr => ∃ (k : Nat) (s : Ps) (line g cap : Nat) (iv : Value), k ≤ ls.length ∧ i = .int .i64 k ∧ ls.length - k ≤ m ∧ Hid (Rd wr z rb q s line g cap iv ∧ Good q.n0 q.n1 fl k s ∧ Kp z wB wr ∧ takeAll q.n0 q.n1 (Ps.start fl) 0 ls = takeAll q.n0 q.n1 s k (ls.drop k)))
  case atStart => exact ⟨0, Ps.start fl, 0, g, cap0, _, Nat.zero_le _, rfl, by omega, Lib.hid ⟨HR1.out, Good.start _ _ _, Kp.refl _ _, rfl⟩⟩
  case round =>
    obtain ⟨k, s, line, gk, capk, iv, hk, rfl, hm, HIV⟩ := hrel
    obtain ⟨hR, hG, hkp, hta⟩ := HIV.out
    by_cases hlt : k < ls.length
    · obtain ⟨bk, off, hAe, hbh, hbk, hB⟩ := HA.out (by omega)
      subst hAe
      obtain ⟨c0, c1⟩ := hB k hlt
      have hbkx : bk < bx := by rw [← HBQ.out]; exact hbk
      have c0' : wr.cell? ⟨bk, off + k * 2, none⟩ = some (.string ⟨ls[k].1.toArray⟩) := ((World.cell?_of_block (a := ⟨bk, _, none⟩) (hkp.2 bk (by omega) (by omega))).trans (HBEL.out.cell (p := ⟨bk, off + k * 2, none⟩) hbkx)).trans c0
      have c1' : wr.cell? ⟨bk, off + k * 2 + 1, none⟩ = some (.bool ls[k].2) := ((World.cell?_of_block (a := ⟨bk, _, none⟩) (hkp.2 bk (by omega) (by omega))).trans (HBEL.out.cell (p := ⟨bk, off + k * 2 + 1, none⟩) hbkx)).trans c1
      have hxl : (ls[k].1).length ≤ 32768 := HTX.out _ (List.getElem_mem hlt)
      have hxr := HRT.out _ (List.getElem_mem hlt)
      obtain ⟨xt, hxt⟩ : ∃ x : ByteArray, x = ⟨ls[k].1.toArray⟩ := ⟨_, rfl⟩
      rw [← hxt] at c0'
      obtain ⟨xb, hxb⟩ : ∃ b, b = ls[k].2 := ⟨_, rfl⟩
      rw [← hxb] at c1'
      obtain ⟨W, hW⟩ : ∃ W : World, W = (wr.setCell ⟨rb, 11, none⟩ (.int .i64 ((k : Int) + 1))).alloc (.cells #[.string xt, .bool xb] 51) := ⟨_, rfl⟩
      have hR1 := hR.below (alloc1 wr (.cells #[.string xt, .bool xb] 51))
      have hRW : Rd W z rb q s (k + 1) gk capk iv := by rw [hW]; exact (hR.stored 11 (.int .i64 ((k : Int) + 1)) (line' := k + 1) (con' := s.con) rfl).below (alloc1 _ _)
      have hkW : Kp z wB W := by rw [hW]; exact (hkp.setCell (p := ⟨rb, 11, none⟩) hR.hb _).trans ((hR.stored 11 (.int .i64 ((k : Int) + 1)) (line' := k + 1) (con' := s.con) rfl).kp (alloc1 _ _))
      have HTK := Lib.hid (take_any hRW (fine_of hG hfl (by omega)) ls[k] (by omega) (HGT.out W hkW))
      rw [← hxt, ← hxb] at HTK
      have c11 : (wr.alloc (.cells #[.string xt, .bool xb] 51)).cell? ⟨rb, 11, none⟩ = some (.int .i64 (line : Int)) := hR1.cells.2.2.1
      have z11 := L.blk_free hR1.blk 11
      have cbx : wr.cell? ⟨bx, 0, none⟩ = some (.pointer (some ⟨rb, 0, none⟩)) := L.blk_cell ((hkp.2 bx (by omega) (by omega)).trans HBX.out) 0
      have hbxl : bx < wr.heap.size := L.blk_lt ((hkp.2 bx (by omega) (by omega)).trans HBX.out)
      have hrl := hR.lt
      have d1 : ¬ rb = wr.heap.size := by omega
      have d2 : ¬ wr.heap.size = rb := by omega
      have d3 : ¬ bx = wr.heap.size := by omega
      have d4 : ¬ bx = rb := by omega
      have d5 : ¬ rb = bx := by omega
      have h0k : (0 : Int) ≤ (k : Int) := by omega
      have hki : (k : Int) < (ls.length : Int) := by omega
      have HKW := Lib.hid hkW
      have HG := Lib.hid hG
      have HTA := Lib.hid hta
      have HXR := Lib.hid hxr
      rw [hW] at HTK
      clear hR hG hkp hta HIV c0 c1 hxt hxb hR1 hRW hkW hxl hB hxr
      go_wp2_with fail
      with_reducible refine (HTK.out).mono ?_
      rintro e w2 he
      rw [← hW] at he
      clear hW HTK c0' c1' c11 z11 cbx
      cases htk : take q.n0 q.n1 (k + 1) s ls[k] with
      | inr er =>
        rw [htk] at he
        obtain ⟨rfl, hc2, hb2⟩ := he
        have HK2 := Lib.hid (HKW.out.trans hb2)
        have HCD := Lib.hid (read_fell (k := er) HBX.out HI.out HL.out HE.out n1 n2 n3 n4 (by omega) (by omega) HK2.out hc2)
        have HRA := Lib.hid (show readAll q.n0 q.n1 fl ls = .inr (k + 1, er) by unfold readAll; rw [HTA.out, takeAll_none hlt htk])
        clear hc2 hb2 htk HTA HKW
        go_wp2_with fail
        refine leaves_cons (f := 87) (args := #[.pointer (some ⟨bx, 0, none⟩), .pointer (some ⟨ib, 0, none⟩), .pointer (some ⟨lb, 0, none⟩), .pointer (some ⟨eb, 0, none⟩)]) (by simp) (by simp [go_sem]) ?_
        refine (HCD.out).mono ?_
        rintro e u' w3 ⟨rfl, rfl, q2, q3, q4, q5⟩
        have HEnd := Lib.hid ((below_lo HBEL.out HK2.out (by omega)).trans (q5 z.lo (by omega) (by omega) (by omega)))
        have i0 : w3.cell? ⟨ib, 0, none⟩ = some (.slice none 0 0) := L.blk_cell q2 0
        have l0 : w3.cell? ⟨lb, 0, none⟩ = some (.int .i64 ((k + 1 : Nat) : Int)) := L.blk_cell q3 0
        have e0 : w3.cell? ⟨eb, 0, none⟩ = some (.int .i64 (er : Int)) := L.blk_cell q4 0
        refine ⟨.tuple #[.slice none 0 0, .int .i64 ((k + 1 : Nat) : Int), .int .i64 (er : Int)], ?_, ?_⟩
        · simp [results, Tryd.results62, go_sem, i0, l0, e0]
        · rw [HRA.out]
          exact ⟨rfl, by rw [← zl]; exact HEnd.out⟩
      | inl t =>
        rw [htk] at he
        obtain ⟨rfl, ⟨g2, cap2, iv2, hR2⟩, hb2⟩ := he
        have HI2 := Lib.hid (show Rd w2 z rb q t (k + 1) g2 cap2 iv2 ∧ Good q.n0 q.n1 fl (k + 1) t ∧ Kp z wB w2 ∧ takeAll q.n0 q.n1 (Ps.start fl) 0 ls = takeAll q.n0 q.n1 t (k + 1) (ls.drop (k + 1)) from ⟨hR2, HG.out.step HXR.out.1 HXR.out.2 htk, HKW.out.trans hb2, by rw [HTA.out, takeAll_some hlt htk]⟩)
        clear hR2 hb2 htk HTA HKW HG
        go_wp2_with fail
        go_roundg (ls.length - (k + 1))
        case rel => exact ⟨k + 1, t, k + 1, g2, cap2, iv2, by omega, by go_num, Nat.le_refl _, HI2⟩
        case measure => omega
    · have hta' : takeAll q.n0 q.n1 (Ps.start fl) 0 ls = .inl s := by rw [hta, List.drop_eq_nil_of_le (by omega)]; rfl
      obtain ⟨W, hW⟩ : ∃ W : World, W = wr.setCell ⟨rb, 11, none⟩ (.int .i64 0) := ⟨_, rfl⟩
      have hRW : Rd W z rb q s 0 gk capk iv := by rw [hW]; exact hR.stored 11 (.int .i64 0) (line' := 0) (con' := s.con) rfl
      have hkW : Kp z wB W := by rw [hW]; exact hkp.setCell (p := ⟨rb, 11, none⟩) hR.hb _
      obtain ⟨m1, hm1⟩ : ∃ m1, m1 = s.op.length := ⟨_, rfl⟩
      obtain ⟨zz, hzz⟩ : ∃ zz : Int, zz = (m1 : Int) - 1 := ⟨_, rfl⟩
      have hfew := hG.stk.few
      have HDP : Hid (DpC gk m1 capk zz) := Lib.hid fun W => by rw [hzz]; exact depth_any _ m1 capk W (by omega)
      have c11 : wr.cell? ⟨rb, 11, none⟩ = some (.int .i64 (line : Int)) := hR.cells.2.2.1
      have z11 := L.blk_free hR.blk 11
      have c9 : wr.cell? ⟨rb, 9, none⟩ = some (.slice (some ⟨gk, 0, none⟩) m1 capk) := by rw [hm1]; exact hR.cells.1
      have cbx : wr.cell? ⟨bx, 0, none⟩ = some (.pointer (some ⟨rb, 0, none⟩)) := L.blk_cell ((hkp.2 bx (by omega) (by omega)).trans HBX.out) 0
      have d4 : ¬ bx = rb := by omega
      have d5 : ¬ rb = bx := by omega
      have HRW := Lib.hid hRW
      have HKW := Lib.hid hkW
      by_cases h1 : m1 = 1
      · have hd : (zz == 0) = true := beq_iff_eq.2 (by omega)
        have HRA := Lib.hid (show readAll q.n0 q.n1 fl ls = .inl s.its by unfold readAll; rw [hta']; simp only; rw [if_pos (by omega)])
        clear hR hG hkp hta HIV hta' hRW hkW hzz hm1 h1
        go_wp2_with fail
        with_reducible refine (HDP.out.call _).mono ?_
        rintro e w' ⟨rfl, rfl⟩
        go_wp2_with fail
        with_reducible refine (need_yes 3 _).mono ?_
        rintro e w' ⟨rfl, rfl⟩
        rw [← hW]
        clear hW c11 z11 c9 cbx hd
        obtain ⟨iA, icap, hiv, -, -⟩ := own_form HRW.out.its
        obtain ⟨n, hn'⟩ : ∃ n, n = s.its.length := ⟨_, rfl⟩
        have HIV := Lib.hid hiv
        rw [← hn'] at hiv
        have HN := Lib.hid hn'
        have c10 : W.cell? ⟨rb, 10, none⟩ = some (.slice iA n icap) := by rw [← hiv]; exact HRW.out.cells.2.1
        have cbx : W.cell? ⟨bx, 0, none⟩ = some (.pointer (some ⟨rb, 0, none⟩)) := L.blk_cell ((HKW.out.2 bx (by omega) (by omega)).trans HBX.out) 0
        have HI2 := Lib.hid ((HKW.out.2 ib (by omega) (by omega)).trans HI.out)
        have HL2 := Lib.hid ((HKW.out.2 lb (by omega) (by omega)).trans HL.out)
        have HE2 := Lib.hid ((HKW.out.2 eb (by omega) (by omega)).trans HE.out)
        have i0 : W.cell? ⟨ib, 0, none⟩ = some (.slice none 0 0) := L.blk_cell HI2.out 0
        have l0 : W.cell? ⟨lb, 0, none⟩ = some (.int .i64 0) := L.blk_cell HL2.out 0
        have e0 : W.cell? ⟨eb, 0, none⟩ = some (.int .i64 0) := L.blk_cell HE2.out 0
        have zi := L.blk_free HI2.out 0
        have zl' := L.blk_free HL2.out 0
        have ze := L.blk_free HE2.out 0
        have e1 : ¬ lb = ib := by omega
        have e2 : ¬ eb = ib := by omega
        have e3 : ¬ eb = lb := by omega
        have e4 : ¬ ib = lb := by omega
        have e5 : ¬ ib = eb := by omega
        have e6 : ¬ lb = eb := by omega
        clear hiv hn'
        go_wp2_with fail
        clear c10 cbx i0 l0 e0 zi zl' ze
        obtain ⟨W3, hW3⟩ : ∃ W3 : World, W3 = ((W.setCell ⟨ib, 0, none⟩ (.slice iA n icap)).setCell ⟨lb, 0, none⟩ (.int .i64 0)).setCell ⟨eb, 0, none⟩ (.int .i64 0) := ⟨_, rfl⟩
        have y1 := L.blk_set HI2.out 0 (.slice iA n icap)
        have y2 := L.blk_set ((L.blk_far (i := 0) e1 (.slice iA n icap)).trans HL2.out) 0 (.int .i64 0)
        have y3 := L.blk_set ((L.blk_far (i := 0) e3 (.int .i64 0)).trans ((L.blk_far (i := 0) e2 (.slice iA n icap)).trans HE2.out)) 0 (.int .i64 0)
        have r1 : W3.heap[ib]? = some (.cells #[.slice iA n icap] 46 (0, 0)) := by rw [hW3]; exact (L.blk_far e5 _).trans ((L.blk_far e4 _).trans y1)
        have r2 : W3.heap[lb]? = some (.cells #[.int .i64 0] 3 (0, 0)) := by rw [hW3]; exact (L.blk_far e6 _).trans y2
        have r3 : W3.heap[eb]? = some (.cells #[.int .i64 0] 27 (0, 0)) := by rw [hW3]; exact y3
        have hB3 : Below z.lo W W3 := by rw [hW3]; exact (((Below.refl _ _).setCell (p := ⟨ib, 0, none⟩) (by show z.lo ≤ ib; omega) _).setCell (p := ⟨lb, 0, none⟩) (by show z.lo ≤ lb; omega) _).setCell (p := ⟨eb, 0, none⟩) (by show z.lo ≤ eb; omega) _
        have HOW : Hid (W3.ownsRow lo 53 6 (.slice iA n icap) s.its.length (itCells s.its)) := Lib.hid (by
          have h0 := HRW.out.its
          rw [HIV.out, ← HN.out, zl] at h0
          rw [← HN.out, hW3]
          have n5 : ∀ b, b = ib ∨ b = lb ∨ b = eb → (Value.slice iA n icap).ownBlock = none ∨ (Value.slice iA n icap).ownBlock ≠ some b := fun b hb => by
            by_cases hz0 : (Value.slice iA n icap).ownBlock = some b
            · have := HRW.out.iz b (by rw [HIV.out, ← HN.out]; exact hz0)
              exact absurd ⟨by omega, by omega⟩ this.2
            · exact .inr hz0
          exact ((h0.kept (grown_set _ ⟨ib, 0, none⟩ _) (n5 _ (.inl rfl))).kept (grown_set _ ⟨lb, 0, none⟩ _) (n5 _ (.inr (.inl rfl)))).kept (grown_set _ ⟨eb, 0, none⟩ _) (n5 _ (.inr (.inr rfl))))
        rw [← hW3]
        clear hW3 y1 y2 y3
        have HB3 := Lib.hid ((below_lo HBEL.out HKW.out (by omega)).trans hB3)
        have i0 : W3.cell? ⟨ib, 0, none⟩ = some (.slice iA n icap) := L.blk_cell r1 0
        have l0 : W3.cell? ⟨lb, 0, none⟩ = some (.int .i64 0) := L.blk_cell r2 0
        have e0 : W3.cell? ⟨eb, 0, none⟩ = some (.int .i64 0) := L.blk_cell r3 0
        refine leaves_cons (f := 87) (args := #[.pointer (some ⟨bx, 0, none⟩), .pointer (some ⟨ib, 0, none⟩), .pointer (some ⟨lb, 0, none⟩), .pointer (some ⟨eb, 0, none⟩)]) (by simp) (by simp [go_sem]) ?_
        refine (catch_idle _ _ _ _ _).mono ?_
        rintro e u' w3 ⟨rfl, rfl, rfl⟩
        refine ⟨.tuple #[.slice iA n icap, .int .i64 0, .int .i64 0], ?_, ?_⟩
        · simp [results, Tryd.results62, go_sem, i0, l0, e0]
        · rw [HRA.out]
          exact ⟨⟨_, rfl, HOW.out⟩, by rw [← zl]; exact HB3.out⟩
      · have hd : (zz == 0) = false := beq_eq_false_iff_ne.2 (by omega)
        have HRA := Lib.hid (show readAll q.n0 q.n1 fl ls = .inr (0, 3) by unfold readAll; rw [hta']; simp only; rw [if_neg (by omega)])
        clear hR hG hkp hta HIV hta' hRW hkW hzz hm1 h1
        go_wp2_with fail
        with_reducible refine (HDP.out.call _).mono ?_
        rintro e w' ⟨rfl, rfl⟩
        go_wp2_with fail
        with_reducible refine (need_no3 _).mono ?_
        rintro e w' ⟨rfl, rfl⟩
        have HCD := Lib.hid (read_fell (k := 3) (line := 0) HBX.out HI.out HL.out HE.out n1 n2 n3 n4 (by omega) (by omega) HKW.out HRW.out.cells.2.2.1)
        rw [← hW]
        clear hW c11 z11 c9 cbx hd
        go_wp2_with fail
        refine leaves_cons (f := 87) (args := #[.pointer (some ⟨bx, 0, none⟩), .pointer (some ⟨ib, 0, none⟩), .pointer (some ⟨lb, 0, none⟩), .pointer (some ⟨eb, 0, none⟩)]) (by simp) (by simp [go_sem]) ?_
        refine (HCD.out).mono ?_
        rintro e u' w3 ⟨rfl, rfl, q2, q3, q4, q5⟩
        have HEnd := Lib.hid ((below_lo HBEL.out HKW.out (by omega)).trans (q5 z.lo (by omega) (by omega) (by omega)))
        have i0 : w3.cell? ⟨ib, 0, none⟩ = some (.slice none 0 0) := L.blk_cell q2 0
        have l0 : w3.cell? ⟨lb, 0, none⟩ = some (.int .i64 0) := L.blk_cell q3 0
        have e0 : w3.cell? ⟨eb, 0, none⟩ = some (.int .i64 3) := L.blk_cell q4 0
        refine ⟨.tuple #[.slice none 0 0, .int .i64 0, .int .i64 3], ?_, ?_⟩
        · simp [results, Tryd.results62, go_sem, i0, l0, e0]
        · rw [HRA.out]
          exact ⟨rfl, by rw [← zl]; exact HEnd.out⟩
end Go.Proofs.YtadhhamfikpimaaDoor.I

namespace Go.Proofs.YtadhhamfikpimaaDoor.I
set_option linter.unusedVariables false
set_option linter.unusedSimpArgs false
open Go.RowKit
open T
open O (own_ne grown_of grown_set ne_type)

def polV (q : PV) : Value := .agg #[.int .i64 q.n0, .int .i64 q.n1, .int .i64 q.n2, .int .i64 q.n3, .int .i64 q.n4, .int .i64 q.n5, .string q.hid, q.uv, q.fv]
set_option maxRecDepth 100000 in
set_option maxHeartbeats 2000000 in
theorem parse_long (A : Option Addr) (cap n : Nat) (q : PV) (l : Int) (c : Nat) (w : World) (h : 32768 < n) (hn : n ≤ maxLen) :
    Calls Tryd.prog 31 #[.slice A n cap, .agg #[.int .i64 q.n0, .int .i64 q.n1, .int .i64 q.n2, .int .i64 q.n3, .int .i64 q.n4, .int .i64 q.n5, .string q.hid, q.uv, q.fv], L.lab l c] w fun e w' => e = .returned (.tuple #[.slice none 0 0, .int .i64 0, .int .i64 4]) ∧ Below w.heap.size w w' := by
  have h' : 32768 < (n : Int) := by omega
  go_enter Tryd.func31, Tryd.ntmps31
  go_wp2_with fail
  refine bodyPost_ret (v := .tuple #[.slice none 0 0, .int .i64 0, .int .i64 4]) (by simp [results, Tryd.results31, go_sem]) rfl ⟨rfl, ((alloc1 _ _).alloc (by simp) _)⟩

theorem few_lines {l : List UInt8} (h : l.length ≤ 32768) : (P.lines [] l).length ≤ 32769 ∧ ∀ x ∈ P.lines [] l, x.1.length ≤ 32768 := by
  have h1 := P.lines_bulk l []
  have h2 := P.length_bulk (P.lines [] l)
  simp at h1
  refine ⟨by omega, fun x hx => ?_⟩
  obtain ⟨j, hj, rfl⟩ := List.getElem_of_mem hx
  have := text_len hj
  omega
/-- The reader as Parse lays it. -/
theorem rd_new (w : World) (q : PV) (fl : Lb) {w2 w3 w4 : World} {g0 : Nat} (hg0 : g0 = w2.heap.size) (hb : Below w.heap.size w w2) (h3 : w3 = w2.alloc (.cells #[.int .i64 fl.1, .int .u64 (fl.2 : Int)] 40)) (h4 : w4 = w3.alloc (.cells (rdCells q (.slice (some ⟨g0, 0, none⟩) 1 1) (.slice none 0 0) 0 0) 95)) :
    Rd w4 ⟨w.heap.size, 0, 0⟩ (g0 + 1) q (Ps.start fl) 0 g0 1 (.slice none 0 0) ∧ Below w.heap.size w w4 ∧ w4.heap.size = g0 + 2 := by
  subst hg0
  have s3 : w3.heap.size = w2.heap.size + 1 := by rw [h3]; simp
  have s4 : w4.heap.size = w2.heap.size + 2 := by rw [h4]; simp; omega
  have b3 : Below w2.heap.size w2 w3 := by rw [h3]; exact alloc1 _ _
  have b4 : Below w3.heap.size w3 w4 := by rw [h4]; exact alloc1 _ _
  have p3 : w3.heap[w2.heap.size]? = some (.cells #[.int .i64 fl.1, .int .u64 (fl.2 : Int)] 40 (0, 0)) := by rw [h3]; exact heap_alloc_new w2 _
  have p4 : w4.heap[w3.heap.size]? = some (.cells (rdCells q (.slice (some ⟨w2.heap.size, 0, none⟩) 1 1) (.slice none 0 0) 0 0) 95 (0, 0)) := by rw [h4]; exact heap_alloc_new w3 _
  rw [s3] at p4
  have q3 := (b4.block _ (by omega)).trans p3
  have hz := hb.size
  refine ⟨⟨⟨by simp only; omega, by simp⟩, Nat.zero_le _, p4, ⟨rfl, ?_⟩, ⟨hz, by simp⟩, by omega, (by intro e; cases e), (fun k hk => by cases hk), ⟨by simp [itCells, Ps.start], .inl ⟨rfl, rfl⟩⟩⟩, (hb.trans (b3.mono hz)).trans (b4.mono (by omega)), s4⟩
  have := row_of_block (size := 2) (n := 1) (base := w.heap.size) q3 hz rfl (by unfold maxLen; omega)
  exact this

def RdOf (rb : Nat) (A : Option Addr) (n cap : Nat) (w : World) (R : Ending → World → Prop) : Prop := Calls Tryd.prog 62 #[.pointer (some ⟨rb, 0, none⟩), .slice A n cap] w R
theorem RdOf.call {rb : Nat} {A : Option Addr} {n cap : Nat} {w : World} {R : Ending → World → Prop} (h : RdOf rb A n cap w R) : Calls Tryd.prog 62 #[.pointer (some ⟨rb, 0, none⟩), .slice A n cap] w R := h

set_option maxRecDepth 100000 in
set_option maxHeartbeats 2000000 in
theorem parse_short (A : Option Addr) (cap : Nat) (l : List UInt8) (q : PV) (hq : ∃ (uA fA : Option Addr) (un uc fn fc : Nat), q.uv = .slice uA un uc ∧ q.fv = .slice fA fn fc) (fl : Lb) (hfl : fl.2 < 18446744073709551616) (w : World) (hA : BytesIn w A l) (hc : l.length ≤ cap) (h : l.length ≤ 32768) (hT : Tab w) :
    Calls Tryd.prog 31 #[.slice A l.length cap, .agg #[.int .i64 q.n0, .int .i64 q.n1, .int .i64 q.n2, .int .i64 q.n3, .int .i64 q.n4, .int .i64 q.n5, .string q.hid, q.uv, q.fv], L.lab fl.1 fl.2] w (ReadEnd w w.heap.size (readAll q.n0 q.n1 fl (P.lines [] l))) := by
  have h' : ¬ 32768 < (l.length : Int) := by omega
  obtain ⟨hf1, hf2⟩ := few_lines h
  have hrt := right_mem (P.right_lines l [] (by simp))
  have HA := Lib.hid hA
  have HT := Lib.hid hT
  have hgl := hT.size
  obtain ⟨o, ho⟩ : ∃ o, o = readAll q.n0 q.n1 fl (P.lines [] l) := ⟨_, rfl⟩
  rw [← ho]
  have HLN : Hid (∀ W : World, Below w.heap.size w W → Calls Tryd.prog 36 #[.slice A l.length cap] W fun e w' => ∃ A' cap', e = .returned (.slice A' (P.lines [] l).length cap') ∧ LinesFrom w' A' (P.lines [] l) W.heap.size ∧ Below W.heap.size W w') := Lib.hid fun W hb => lines_from A cap l W (HA.out.below hb) hc (by omega)
  have HRD : Hid (∀ (W W1 : World) (A' : Option Addr) (cap' g : Nat), Rd W ⟨w.heap.size, 0, 0⟩ (g + 1) q (Ps.start fl) 0 g 1 (.slice none 0 0) → Below w.heap.size w W → W.heap.size = g + 2 → LinesFrom W1 A' (P.lines [] l) W.heap.size → Below W.heap.size W W1 → RdOf (g + 1) A' (P.lines [] l).length cap' W1 fun e w' => ReadEnd w w.heap.size o e w') := Lib.hid fun W W1 A' cap' g hR hb hs hL hb1 => by
    have hbb := hb.trans (hb1.mono hb.size)
    refine (read_any A' cap' (P.lines [] l) W1 w.heap.size W.heap.size (g + 1) g 1 q fl hfl hb.size hb1.size (by omega) (by omega) hL hf1 hf2 hrt (HT.out.later hbb) hgl (hR.below hb1)).mono ?_
    intro e w' he
    rw [← ho] at he
    cases o with
    | inl its => exact ⟨he.1, hbb.trans he.2⟩
    | inr x => exact ⟨he.1, hbb.trans he.2⟩
  have HNEW := Lib.hid (fun (w2 w3 w4 : World) (g0 : Nat) => rd_new w q fl (w2 := w2) (w3 := w3) (w4 := w4) (g0 := g0))
  have hb2 : Below w.heap.size w ((w.alloc (.cells #[.int .i64 q.n0, .int .i64 q.n1, .int .i64 q.n2, .int .i64 q.n3, .int .i64 q.n4, .int .i64 q.n5, .string q.hid, q.uv, q.fv] 26)).alloc (.cells #[.int .i64 fl.1, .int .u64 (fl.2 : Int)] 40)) := (alloc1 _ _).alloc (by simp) _
  generalize (P.lines [] l) = ls at *
  obtain ⟨uA, fA, un, uc, fn, fc, hu, hf⟩ := hq
  obtain ⟨q0, q1, q2, q3, q4, q5, qh, qu, qf⟩ := q
  simp only at hu hf
  subst hu hf
  have HB2 := Lib.hid hb2
  clear hA hT ho hf1 hf2 hrt hb2
  go_enter Tryd.func31, Tryd.ntmps31
  go_wp2_with fail
  obtain ⟨W, hW⟩ : ∃ W : World, W = ((((w.alloc (.cells #[.int .i64 q0, .int .i64 q1, .int .i64 q2, .int .i64 q3, .int .i64 q4, .int .i64 q5, .string qh, .slice uA un uc, .slice fA fn fc] 26)).alloc (.cells #[.int .i64 fl.1, .int .u64 (fl.2 : Int)] 40)).alloc (.cells #[.int .i64 fl.1, .int .u64 (fl.2 : Int)] 40)).alloc (.cells #[.int .i64 q0, .int .i64 q1, .int .i64 q2, .int .i64 q3, .int .i64 q4, .int .i64 q5, .string qh, .slice uA un uc, .slice fA fn fc, .slice (some ⟨w.heap.size + 1 + 1, 0, none⟩) 1 1, .slice none 0 0, .int .i64 0, .int .i64 0] 95)) := ⟨_, rfl⟩
  have hN := HNEW.out _ _ W (w.heap.size + 1 + 1) (by simp) HB2.out rfl hW
  rw [← hW]
  clear hW HNEW HB2
  obtain ⟨hR, hb, hs⟩ := hN
  have HRW := Lib.hid hR
  have HBW := Lib.hid hb
  have HSW := Lib.hid hs
  have HL2 := Lib.hid (HLN.out W hb)
  clear hR hb hs HLN
  with_reducible refine (HL2.out).mono ?_
  rintro e w1 ⟨A1, cap1, rfl, hL1, hb1⟩
  have HC := Lib.hid (HRD.out W w1 A1 cap1 _ HRW.out HBW.out HSW.out hL1 hb1)
  clear hL1 hb1 HL2 HRD HRW HBW HSW
  go_wp2_with fail
  with_reducible refine (HC.out.call).mono ?_
  rintro e w2 he
  rcases o with its | x
  · obtain ⟨⟨iv, rfl, hown⟩, hb2⟩ := he
    have HE := Lib.hid (show ReadEnd w w.heap.size (.inl its) _ w2 from ⟨⟨iv, rfl, hown⟩, hb2⟩)
    clear hown hb2 HC
    go_wp2_with fail
    refine bodyPost_ret (v := .tuple #[iv, .int .i64 0, .int .i64 0]) (by simp [results, Tryd.results31, go_sem]) rfl HE.out
  · obtain ⟨rfl, hb2⟩ := he
    have HE := Lib.hid (show ReadEnd w w.heap.size (.inr x) _ w2 from ⟨rfl, hb2⟩)
    clear hb2 HC
    go_wp2_with fail
    refine bodyPost_ret (v := .tuple #[.slice none 0 0, .int .i64 (x.1 : Int), .int .i64 (x.2 : Int)]) (by simp [results, Tryd.results31, go_sem]) rfl HE.out

theorem parse_any (A : Option Addr) (cap : Nat) (l : List UInt8) (q : PV) (hq : ∃ (uA fA : Option Addr) (un uc fn fc : Nat), q.uv = .slice uA un uc ∧ q.fv = .slice fA fn fc) (fl : Lb) (hfl : fl.2 < 18446744073709551616) (w : World) (hA : BytesIn w A l) (hc : l.length ≤ cap) (hn : l.length ≤ maxLen) (hT : Tab w) :
    Calls Tryd.prog 31 #[.slice A l.length cap, .agg #[.int .i64 q.n0, .int .i64 q.n1, .int .i64 q.n2, .int .i64 q.n3, .int .i64 q.n4, .int .i64 q.n5, .string q.hid, q.uv, q.fv], L.lab fl.1 fl.2] w (ReadEnd w w.heap.size (parse q.n0 q.n1 fl l)) := by
  unfold parse
  by_cases h : 32768 < l.length
  · rw [if_pos h]
    exact (parse_long A cap l.length q fl.1 fl.2 w h hn).mono fun e w' he => he
  · rw [if_neg h]
    exact parse_short A cap l q hq fl hfl w hA hc (by omega) hT
end Go.Proofs.YtadhhamfikpimaaDoor.I
