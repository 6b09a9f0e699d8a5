/-
  The contracts of policy's read and Parse.
-/
import Derived.Test.YtadhhamfikpimaaDoorGf
import Derived.Test.YtadhhamfikpimaaDoorGg
namespace Go.Proofs.YtadhhamfikpimaaDoor.O
set_option linter.unusedVariables false
set_option linter.unusedSimpArgs false
open Go.RowKit
open T

/-- What lines come to. -/
def ReadEnd (w : World) (o : Pol ⊕ Nat) (e : Ending) (w' : World) : Prop :=
  match o with
  | .inl p => (∃ uv fv, e = .returned (.tuple #[polA (p.ns.getD 0 0) (p.ns.getD 1 0) (p.ns.getD 2 0) (p.ns.getD 3 0) (p.ns.getD 4 0) (p.ns.getD 5 0) ⟨p.hid.toArray⟩ uv fv, .int .i64 0, .int .i64 0]) ∧ w'.ownsRow w.heap.size 72 4 uv p.us.length (usrCells p.us) ∧ w'.ownsRow w.heap.size 76 3 fv p.fs.length (flrCells p.fs)) ∧ Below w.heap.size w w'
  | .inr k => e = .returned (.tuple #[.agg zeroPol, .int .i64 (k : Int), .int .i64 3]) ∧ Below w.heap.size w w'

/-- What read has laid ahead of the lines: its results, the map, and the reader. -/
structure Laid (w wB : World) : Prop where
  p : wB.heap[w.heap.size]? = some (.cells zeroPol 26 (0, 0))
  l : wB.heap[w.heap.size + 1]? = some (.cells #[.int .i64 0] 3 (0, 0))
  e : wB.heap[w.heap.size + 2]? = some (.cells #[.int .i64 0] 27 (0, 0))
  rd : Rd wB (w.heap.size + 3) (w.heap.size + 4) (w.heap.size + 3) 0 Pol.none (fun _ => 0) 0 (.slice none 0 0) (.slice none 0 0)
  below : Below w.heap.size w wB
theorem laid (w : World) : Laid w (((((w.alloc (.cells zeroPol 26)).alloc (.cells #[.int .i64 0] 3)).alloc (.cells #[.int .i64 0] 27)).alloc (.map #[] 0)).alloc (.cells (rdCells Pol.none (.slice none 0 0) (.slice none 0 0) (w.heap.size + 3) 0) 99)) := by
  obtain ⟨w1, h1⟩ : ∃ w1, w1 = w.alloc (.cells zeroPol 26) := ⟨_, rfl⟩
  obtain ⟨w2, h2⟩ : ∃ w2, w2 = w1.alloc (.cells #[.int .i64 0] 3) := ⟨_, rfl⟩
  obtain ⟨w3, h3⟩ : ∃ w3, w3 = w2.alloc (.cells #[.int .i64 0] 27) := ⟨_, rfl⟩
  obtain ⟨w4, h4⟩ : ∃ w4, w4 = w3.alloc (.map #[] 0) := ⟨_, rfl⟩
  obtain ⟨w5, h5⟩ : ∃ w5, w5 = w4.alloc (.cells (rdCells Pol.none (.slice none 0 0) (.slice none 0 0) (w.heap.size + 3) 0) 99) := ⟨_, rfl⟩
  rw [← h1, ← h2, ← h3, ← h4, ← h5]
  have s1 : w1.heap.size = w.heap.size + 1 := by rw [h1]; simp
  have s2 : w2.heap.size = w.heap.size + 2 := by rw [h2]; simp; omega
  have s3 : w3.heap.size = w.heap.size + 3 := by rw [h3]; simp; omega
  have s4 : w4.heap.size = w.heap.size + 4 := by rw [h4]; simp; omega
  have b1 : Below w.heap.size w w1 := by rw [h1]; exact (Below.refl _ _).alloc (Nat.le_refl _) _
  have b2 : Below w1.heap.size w1 w2 := by rw [h2]; exact (Below.refl _ _).alloc (Nat.le_refl _) _
  have b3 : Below w2.heap.size w2 w3 := by rw [h3]; exact (Below.refl _ _).alloc (Nat.le_refl _) _
  have b4 : Below w3.heap.size w3 w4 := by rw [h4]; exact (Below.refl _ _).alloc (Nat.le_refl _) _
  have b5 : Below w4.heap.size w4 w5 := by rw [h5]; exact (Below.refl _ _).alloc (Nat.le_refl _) _
  have p1 : w1.heap[w.heap.size]? = some (.cells zeroPol 26 (0, 0)) := by rw [h1]; exact heap_alloc_new w _
  have p2 : w2.heap[w1.heap.size]? = some (.cells #[.int .i64 0] 3 (0, 0)) := by rw [h2]; exact heap_alloc_new w1 _
  have p3 : w3.heap[w2.heap.size]? = some (.cells #[.int .i64 0] 27 (0, 0)) := by rw [h3]; exact heap_alloc_new w2 _
  have p4 : MapIs w4 w3.heap.size 0 (fun _ => 0) := by rw [h4]; exact MapIs.start w3
  have p5 : w5.heap[w4.heap.size]? = some (.cells (rdCells Pol.none (.slice none 0 0) (.slice none 0 0) (w.heap.size + 3) 0) 99 (0, 0)) := by rw [h5]; exact heap_alloc_new w4 _
  have q5 := p4.kept (grown_of b5 none) (by simp)
  rw [s3] at q5
  rw [s4] at p5
  refine ⟨?_, ?_, ?_, ⟨Nat.le_succ _, Nat.le_refl _, p5, q5, ⟨by simp [usrCells, Pol.none], .inl ⟨rfl, rfl⟩⟩, ⟨by simp [flrCells, Pol.none], .inl ⟨rfl, rfl⟩⟩⟩, ?_⟩
  · exact (b5.block _ (by omega)).trans ((b4.block _ (by omega)).trans ((b3.block _ (by omega)).trans ((b2.block _ (by omega)).trans p1)))
  · rw [s1] at p2
    exact (b5.block _ (by omega)).trans ((b4.block _ (by omega)).trans ((b3.block _ (by omega)).trans p2))
  · rw [s2] at p3
    exact (b5.block _ (by omega)).trans ((b4.block _ (by omega)).trans p3)
  · exact (((b1.trans (b2.mono (by omega))).trans (b3.mono (by omega))).trans (b4.mono (by omega))).trans (b5.mono (by omega))

theorem takeAll_some {s t : St} {k : Nat} {ls : List (List UInt8 × Bool)} (hk : k < ls.length) (h : take s ls[k].1 = some t) : takeAll s k (ls.drop k) = takeAll t (k + 1) (ls.drop (k + 1)) := by
  rw [List.drop_eq_getElem_cons hk, takeAll, h]
theorem takeAll_none {s : St} {k : Nat} {ls : List (List UInt8 × Bool)} (hk : k < ls.length) (h : take s ls[k].1 = none) : takeAll s k (ls.drop k) = .inr (k + 1) := by
  rw [List.drop_eq_getElem_cons hk, takeAll, h]
theorem zero_cells {w : World} {pb : Nat} (h : w.heap[pb]? = some (.cells zeroPol 26 (0, 0))) : w.cell? ⟨pb, 0, none⟩ = some (.int .i64 0) ∧ w.cell? ⟨pb, 1, none⟩ = some (.int .i64 0) ∧ w.cell? ⟨pb, 2, none⟩ = some (.int .i64 0) ∧ w.cell? ⟨pb, 3, none⟩ = some (.int .i64 0) ∧ w.cell? ⟨pb, 4, none⟩ = some (.int .i64 0) ∧ w.cell? ⟨pb, 5, none⟩ = some (.int .i64 0) ∧ w.cell? ⟨pb, 6, none⟩ = some (.string ⟨#[]⟩) ∧ w.cell? ⟨pb, 7, none⟩ = some (.slice none 0 0) ∧ w.cell? ⟨pb, 8, none⟩ = some (.slice none 0 0) :=
  ⟨L.blk_cell h 0, L.blk_cell h 1, L.blk_cell h 2, L.blk_cell h 3, L.blk_cell h 4, L.blk_cell h 5, L.blk_cell h 6, L.blk_cell h 7, L.blk_cell h 8⟩
structure Zg (w w' : World) (pb : Nat) (cs : Array Value) : Prop where
  now : w'.heap[pb]? = some (.cells cs 26 (0, 0))
  far : ∀ g, g ≠ pb → w'.heap[g]? = w.heap[g]?
  below : ∀ B, B ≤ pb → Below B w w'
theorem Zg.start {w : World} {pb : Nat} {cs : Array Value} (hp : w.heap[pb]? = some (.cells cs 26 (0, 0))) : Zg w w pb cs := ⟨hp, fun _ _ => rfl, fun _ _ => Below.refl _ _⟩
theorem Zg.step {w w' : World} {pb : Nat} {cs cs' : Array Value} (h : Zg w w' pb cs) (i : Nat) (v : Value) (hv : cs.setIfInBounds i v = cs') : Zg w (w'.setCell ⟨pb, i, none⟩ v) pb cs' := by
  refine ⟨?_, fun g hg => (L.blk_far hg v).trans (h.far g hg), fun B hB => (h.below B hB).setCell (p := ⟨pb, i, none⟩) hB v⟩
  have := L.blk_set h.now i v
  rw [hv] at this
  exact this
theorem stored9 {w : World} {pb : Nat} (v0 v1 v2 v3 v4 v5 v6 v7 v8 : Value) (h : w.heap[pb]? = some (.cells zeroPol 26 (0, 0))) : Zg w (((((((((w.setCell ⟨pb, 0, none⟩ v0).setCell ⟨pb, 1, none⟩ v1).setCell ⟨pb, 2, none⟩ v2).setCell ⟨pb, 3, none⟩ v3).setCell ⟨pb, 4, none⟩ v4).setCell ⟨pb, 5, none⟩ v5).setCell ⟨pb, 6, none⟩ v6).setCell ⟨pb, 7, none⟩ v7).setCell ⟨pb, 8, none⟩ v8) pb #[v0, v1, v2, v3, v4, v5, v6, v7, v8] :=
  (((((((((Zg.start (cs := #[.int .i64 0, .int .i64 0, .int .i64 0, .int .i64 0, .int .i64 0, .int .i64 0, .string ⟨#[]⟩, .slice none 0 0, .slice none 0 0]) h).step 0 v0 (cs' := #[v0, .int .i64 0, .int .i64 0, .int .i64 0, .int .i64 0, .int .i64 0, .string ⟨#[]⟩, .slice none 0 0, .slice none 0 0]) rfl).step 1 v1 (cs' := #[v0, v1, .int .i64 0, .int .i64 0, .int .i64 0, .int .i64 0, .string ⟨#[]⟩, .slice none 0 0, .slice none 0 0]) rfl).step 2 v2 (cs' := #[v0, v1, v2, .int .i64 0, .int .i64 0, .int .i64 0, .string ⟨#[]⟩, .slice none 0 0, .slice none 0 0]) rfl).step 3 v3 (cs' := #[v0, v1, v2, v3, .int .i64 0, .int .i64 0, .string ⟨#[]⟩, .slice none 0 0, .slice none 0 0]) rfl).step 4 v4 (cs' := #[v0, v1, v2, v3, v4, .int .i64 0, .string ⟨#[]⟩, .slice none 0 0, .slice none 0 0]) rfl).step 5 v5 (cs' := #[v0, v1, v2, v3, v4, v5, .string ⟨#[]⟩, .slice none 0 0, .slice none 0 0]) rfl).step 6 v6 (cs' := #[v0, v1, v2, v3, v4, v5, v6, .slice none 0 0, .slice none 0 0]) rfl).step 7 v7 (cs' := #[v0, v1, v2, v3, v4, v5, v6, v7, .slice none 0 0]) rfl).step 8 v8 (cs' := #[v0, v1, v2, v3, v4, v5, v6, v7, v8]) rfl
theorem pol_cells {w : World} {pb : Nat} {v0 v1 v2 v3 v4 v5 v6 v7 v8 : Value} (h : w.heap[pb]? = some (.cells #[v0, v1, v2, v3, v4, v5, v6, v7, v8] 26 (0, 0))) : w.cell? ⟨pb, 0, none⟩ = some v0 ∧ w.cell? ⟨pb, 1, none⟩ = some v1 ∧ w.cell? ⟨pb, 2, none⟩ = some v2 ∧ w.cell? ⟨pb, 3, none⟩ = some v3 ∧ w.cell? ⟨pb, 4, none⟩ = some v4 ∧ w.cell? ⟨pb, 5, none⟩ = some v5 ∧ w.cell? ⟨pb, 6, none⟩ = some v6 ∧ w.cell? ⟨pb, 7, none⟩ = some v7 ∧ w.cell? ⟨pb, 8, none⟩ = some v8 :=
  ⟨L.blk_cell h 0, L.blk_cell h 1, L.blk_cell h 2, L.blk_cell h 3, L.blk_cell h 4, L.blk_cell h 5, L.blk_cell h 6, L.blk_cell h 7, L.blk_cell h 8⟩
theorem own_moved {w w' : World} {base base' : Nat} {e : TypeId} {size n : Nat} {v : Value} {xs : List Value} (h : w.ownsRow base e size v n xs) (hf : ∀ g, base ≤ g → w'.heap[g]? = w.heap[g]?) (hb : base' ≤ base) : w'.ownsRow base' e size v n xs := by
  refine ⟨h.1, ?_⟩
  rcases h.2 with hv | ⟨g, cap, cur, hv, hg, hh, hr⟩
  · exact .inl hv
  · exact .inr ⟨g, cap, cur, hv, Nat.le_trans hb hg, (hf g hg).trans hh, hr⟩
/-- A line's fault, taken back. -/
theorem read_fell {w W w2 wB : World} {pb lb eb mb rb : Nat} {line : Int} (HP : wB.heap[pb]? = some (.cells zeroPol 26 (0, 0))) (HL : wB.heap[lb]? = some (.cells #[.int .i64 0] 3 (0, 0))) (HE : wB.heap[eb]? = some (.cells #[.int .i64 0] 27 (0, 0))) (n1 : pb < lb) (n2 : lb < eb) (n3 : eb < mb) (n4 : mb < rb) (hb : Below mb wB w2) (hc : w2.cell? ⟨rb, 10, none⟩ = some (.int .i64 line)) :
    CallsD Tryd.prog 63 #[.pointer (some ⟨rb, 0, none⟩), .pointer (some ⟨pb, 0, none⟩), .pointer (some ⟨lb, 0, none⟩), .pointer (some ⟨eb, 0, none⟩)] (.panicking fault) w2 fun e u' w' =>
      e = .returned (.tuple #[]) ∧ u' = .panicking [{ v := .iface 27 (.int .i64 3), recovered := true }] ∧ Caught w2 pb lb eb line w' :=
  catch_panicking rb pb lb eb line w2 hc ((hb.block pb (by omega)).trans HP) ((hb.block lb (by omega)).trans HL) ((hb.block eb (by omega)).trans HE) (by omega) (by omega) (by omega) (by omega)

set_option maxRecDepth 100000 in
set_option maxHeartbeats 4000000 in
theorem read_any (A : Option Addr) (cap : Nat) (ls : List (List UInt8 × Bool)) (w : World) (hA : LinesIn w A ls) (hn : ls.length ≤ 8193) (ht : ∀ x ∈ ls, x.1.length ≤ 8192) (hT : Tab w) :
    Calls Tryd.prog 35 #[.slice A ls.length cap] w (ReadEnd w (readAll ls)) := by
  have hmf : ∀ (fn : Fn) (first cap : Array Value) (w : World), (Instr.makeFunc fn first cap).run Tryd.prog w = .ok (.func fn first cap) w := fun _ _ _ _ => rfl
  have hmm := @run_makeMap Tryd.prog
  have HA := Lib.hid hA
  have HTX := Lib.hid ht
  have HTB := Lib.hid hT
  have HLD := Lib.hid (laid w)
  clear hA ht hT
  have hpow := HTB.out.size
  go_enter_defers Tryd.func35, Tryd.ntmps35
  go_wp2_with fail
  have hL : Laid w (((((w.alloc (.cells #[.int .i64 0, .int .i64 0, .int .i64 0, .int .i64 0, .int .i64 0, .int .i64 0, .string ⟨#[]⟩, .slice none 0 0, .slice none 0 0] 26)).alloc (.cells #[.int .i64 0] 3)).alloc (.cells #[.int .i64 0] 27)).alloc (.map #[] 0)).alloc (.cells #[.int .i64 0, .int .i64 0, .int .i64 0, .int .i64 0, .int .i64 0, .int .i64 0, .string ⟨#[]⟩, .slice none 0 0, .slice none 0 0, .map (some (w.heap.size + 1 + 1 + 1)), .int .i64 0] 99)) := HLD.out
  generalize hwB : ((((w.alloc (Obj.cells #[.int .i64 0, .int .i64 0, .int .i64 0, .int .i64 0, .int .i64 0, .int .i64 0, .string ⟨#[]⟩, .slice none 0 0, .slice none 0 0] 26)).alloc (.cells #[.int .i64 0] 3)).alloc (.cells #[.int .i64 0] 27)).alloc (.map #[] 0)).alloc (.cells #[.int .i64 0, .int .i64 0, .int .i64 0, .int .i64 0, .int .i64 0, .int .i64 0, .string ⟨#[]⟩, .slice none 0 0, .slice none 0 0, .map (some (w.heap.size + 1 + 1 + 1)), .int .i64 0] 99) = wB at hL ⊢
  clear hwB HLD
  obtain ⟨hp, hl, he, hrd, hbel⟩ := hL
  have he' : wB.heap[w.heap.size + 1 + 1]? = some (.cells #[.int .i64 0] 27 (0, 0)) := he
  have hrd' : Rd wB (w.heap.size + 1 + 1 + 1) (w.heap.size + 1 + 1 + 1 + 1) (w.heap.size + 1 + 1 + 1) 0 Pol.none (fun _ => 0) 0 (.slice none 0 0) (.slice none 0 0) := hrd
  clear he hrd
  generalize hrb : w.heap.size + 1 + 1 + 1 + 1 = rb at *
  generalize hmb : w.heap.size + 1 + 1 + 1 = mb at *
  generalize heb : w.heap.size + 1 + 1 = eb at *
  generalize hlb : w.heap.size + 1 = lb at *
  have n1 : w.heap.size < lb := by omega
  have n2 : lb < eb := by omega
  have n3 : eb < mb := by omega
  have n4 : mb < rb := by omega
  have HP := Lib.hid hp
  have HL := Lib.hid hl
  have HE := Lib.hid he'
  have HRD := Lib.hid hrd'
  have HBEL := Lib.hid hbel
  clear hrb hmb heb hlb hp hl he' hrd' hbel hmm hmf
  generalize hpb : w.heap.size = pb at *
  have HPB := Lib.hid hpb
  clear hpb
  go_loopg [13] ls.length (fun m i wr => ∃ (k : Nat) (s : St) (n : Nat) (f : List UInt8 → Int) (line : Int) (uv fv : Value), k ≤ ls.length ∧ i = .int .i64 k ∧ ls.length - k ≤ m ∧ n ≤ k ∧ Hid (Rd wr mb rb mb n s.p f line uv fv ∧ Tells s f ∧ Below mb wB wr ∧ takeAll St.start 0 ls = takeAll s k (ls.drop k)))
  case atStart => exact ⟨0, St.start, 0, _, _, _, _, Nat.zero_le _, rfl, by omega, Nat.le_refl _, Lib.hid ⟨HRD.out, Tells.start, Below.refl _ _, rfl⟩⟩
  case round =>
    obtain ⟨k, s, n, f, line, uv, fv, hk, rfl, hm, hnk, HI⟩ := hrel
    obtain ⟨hR, hTe, hbr, hta⟩ := HI.out
    by_cases hlt : k < ls.length
    · obtain ⟨bk, off, hAe, hbk, hB⟩ := HA.out (by omega)
      subst hAe
      obtain ⟨c0, c1⟩ := hB k hlt
      have hbw : Below pb w wr := HBEL.out.trans (hbr.mono (by omega))
      have hbkp : bk < pb := by rw [← HPB.out]; exact hbk
      have c0' := (hbw.cell (p := ⟨bk, off + k * 2, none⟩) hbkp).trans c0
      have c1' := (hbw.cell (p := ⟨bk, off + k * 2 + 1, none⟩) hbkp).trans c1
      have hxl : (ls[k].1).length ≤ 8192 := HTX.out _ (List.getElem_mem hlt)
      have HXS := Lib.hid (show takeAll St.start 0 ls = takeAll s k (ls.drop k) from hta)
      obtain ⟨xt, hxt⟩ : ∃ x : ByteArray, x = ⟨ls[k].1.toArray⟩ := ⟨_, rfl⟩
      have hxd : xt.data.toList = ls[k].1 := by rw [hxt, list_data]
      have hxz : xt.size ≤ 8192 := by rw [hxt, list_size]; exact hxl
      rw [← hxt] at c0'
      obtain ⟨xb, hxb⟩ : ∃ b, b = ls[k].2 := ⟨_, rfl⟩
      rw [← hxb] at c1'
      obtain ⟨W, hW⟩ : ∃ W : World, W = (wr.alloc (.cells #[.string xt, .bool xb] 51)).setCell ⟨rb, 10, none⟩ (.int .i64 ((k : Int) + 1)) := ⟨_, rfl⟩
      have hR1 := hR.below ((Below.refl wr.heap.size wr).alloc (Nat.le_refl _) (.cells #[.string xt, .bool xb] 51))
      have hRW : Rd W mb rb mb n s.p f ((k : Int) + 1) uv fv := by rw [hW]; exact hR1.stored 10 (.int .i64 ((k : Int) + 1)) (p' := s.p) (line' := (k : Int) + 1) rfl rfl rfl
      have hbW : Below mb wB W := by rw [hW]; exact (hbr.alloc hR.size _).setCell (p := ⟨rb, 10, none⟩) (Nat.le_of_lt n4) _
      have hbWw : Below pb w W := HBEL.out.trans (hbW.mono (by omega))
      have HTK := Lib.hid (take_any hRW hTe (by omega) (by omega) (HTB.out.below hbWw hpow) xt hxz (by unfold maxLen; omega) (WalkArith.wf_i64 (by omega)))
      rw [hxd] at HTK
      have c10 : (wr.alloc (.cells #[.string xt, .bool xb] 51)).cell? ⟨rb, 10, none⟩ = some (.int .i64 line) := L.blk_cell hR1.blk 10
      have z10 := L.blk_free hR1.blk 10
      have hrne : ¬ rb = wr.heap.size := by have := L.blk_lt hR.blk; omega
      have hrne' : ¬ wr.heap.size = rb := fun e => hrne e.symm
      have h0k : (0 : Int) ≤ (k : Int) := by omega
      have hki : (k : Int) < (ls.length : Int) := by omega
      have HBW := Lib.hid hbW
      rw [hW] at HTK
      clear hR hTe hbr hta HI c0 c1 hbw hxt hxd hxz hxb hR1 hRW hbW hbWw hxl hB
      go_wp2_with fail
      with_reducible refine (HTK.out).mono ?_
      rintro e w2 he
      rw [← hW] at he
      clear hW HTK c0' c1' c10 z10
      cases htk : take s ls[k].1 with
      | none =>
        rw [htk] at he
        obtain ⟨rfl, hc2, hb2⟩ := he
        have HCD := Lib.hid (read_fell (w := w) (W := W) HP.out HL.out HE.out n1 n2 n3 n4 (HBW.out.trans hb2) hc2)
        have HRA := Lib.hid (show readAll ls = .inr (k + 1) by unfold readAll; rw [HXS.out, takeAll_none hlt htk])
        have HB2 := Lib.hid (HBEL.out.trans ((HBW.out.trans hb2).mono (by omega)))
        clear hc2 hb2 htk HXS HBW
        go_wp2_with fail
        refine leaves_cons (f := 63) (args := #[.pointer (some ⟨rb, 0, none⟩), .pointer (some ⟨pb, 0, none⟩), .pointer (some ⟨lb, 0, none⟩), .pointer (some ⟨eb, 0, none⟩)]) (by simp) (by simp [go_sem]) ?_
        refine (HCD.out).mono ?_
        rintro e u' w3 ⟨rfl, rfl, q1, q2, q3, q4⟩
        have HEnd := Lib.hid (HB2.out.trans (q4 pb (Nat.le_refl _) (by omega) (by omega)))
        have l0 : w3.cell? ⟨lb, 0, none⟩ = some (.int .i64 ((k : Int) + 1)) := L.blk_cell q2 0
        have e0 : w3.cell? ⟨eb, 0, none⟩ = some (.int .i64 3) := L.blk_cell q3 0
        obtain ⟨p0, p1, p2, p3, p4, p5, p6, p7, p8⟩ := zero_cells q1
        refine ⟨.tuple #[.agg zeroPol, .int .i64 ((k : Int) + 1), .int .i64 3], ?_, ?_⟩
        · simp [results, Tryd.results35, go_sem, p0, p1, p2, p3, p4, p5, p6, p7, p8, l0, e0, zeroPol]
        · rw [HRA.out]
          exact ⟨by simp, by rw [HPB.out]; exact HEnd.out⟩
      | some t =>
        rw [htk] at he
        obtain ⟨rfl, ⟨f2, uv2, fv2, hR2, hT2⟩, hb2⟩ := he
        have HI2 := Lib.hid (show Rd w2 mb rb mb (n + 1) t.p f2 ((k : Int) + 1) uv2 fv2 ∧ Tells t f2 ∧ Below mb wB w2 ∧ takeAll St.start 0 ls = takeAll t (k + 1) (ls.drop (k + 1)) from ⟨hR2, hT2, HBW.out.trans hb2, by rw [HXS.out, takeAll_some hlt htk]⟩)
        clear hR2 hT2 hb2 htk HXS HBW
        go_wp2_with fail
        go_roundg (ls.length - (k + 1))
        case rel => exact ⟨k + 1, t, n + 1, f2, (k : Int) + 1, uv2, fv2, by omega, by go_num, Nat.le_refl _, by omega, HI2⟩
        case measure => omega
    · obtain ⟨kk, hkk⟩ : ∃ kk, kk = k := ⟨_, rfl⟩
      have hta' : takeAll St.start 0 ls = .inl s := by rw [hta, List.drop_eq_nil_of_le (by omega)]; rfl
      obtain ⟨W, hW⟩ : ∃ W : World, W = wr.setCell ⟨rb, 10, none⟩ (.int .i64 0) := ⟨_, rfl⟩
      have hRW : Rd W mb rb mb n s.p f 0 uv fv := by rw [hW]; exact hR.stored 10 (.int .i64 0) (p' := s.p) (line' := 0) rfl rfl rfl
      have hbW : Below mb wB W := by rw [hW]; exact hbr.setCell (p := ⟨rb, 10, none⟩) (Nat.le_of_lt n4) _
      have HNA := Lib.hid (needAll_any hRW hTe)
      rw [hW] at HNA
      have c10 : wr.cell? ⟨rb, 10, none⟩ = some (.int .i64 line) := L.blk_cell hR.blk 10
      have z10 := L.blk_free hR.blk 10
      have HBW := Lib.hid hbW
      have HRW := Lib.hid hRW
      have HTA := Lib.hid hta'
      clear hR hTe hbr hta HI hta' hRW hbW hkk
      go_wp2_with fail
      with_reducible refine (HNA.out).mono ?_
      rintro e w2 he
      rw [← hW] at he
      clear hW HNA c10 z10
      cases hon : s.once.all id with
      | false =>
        rw [hon] at he
        obtain ⟨rfl, hc2, hb2⟩ := he
        have HCD := Lib.hid (read_fell (w := w) (W := W) HP.out HL.out HE.out n1 n2 n3 n4 (HBW.out.trans hb2) hc2)
        have HRA := Lib.hid (show readAll ls = .inr 0 by unfold readAll; rw [HTA.out]; simp only [hon]; rfl)
        have HB2 := Lib.hid (HBEL.out.trans ((HBW.out.trans hb2).mono (by omega)))
        clear hc2 hb2 hon HTA HBW
        go_wp2_with fail
        refine leaves_cons (f := 63) (args := #[.pointer (some ⟨rb, 0, none⟩), .pointer (some ⟨pb, 0, none⟩), .pointer (some ⟨lb, 0, none⟩), .pointer (some ⟨eb, 0, none⟩)]) (by simp) (by simp [go_sem]) ?_
        refine (HCD.out).mono ?_
        rintro e u' w3 ⟨rfl, rfl, q1, q2, q3, q4⟩
        have HEnd := Lib.hid (HB2.out.trans (q4 pb (Nat.le_refl _) (by omega) (by omega)))
        have l0 : w3.cell? ⟨lb, 0, none⟩ = some (.int .i64 0) := L.blk_cell q2 0
        have e0 : w3.cell? ⟨eb, 0, none⟩ = some (.int .i64 3) := L.blk_cell q3 0
        obtain ⟨p0, p1, p2, p3, p4, p5, p6, p7, p8⟩ := zero_cells q1
        refine ⟨.tuple #[.agg zeroPol, .int .i64 0, .int .i64 3], ?_, ?_⟩
        · simp [results, Tryd.results35, go_sem, p0, p1, p2, p3, p4, p5, p6, p7, p8, l0, e0, zeroPol]
        · rw [HRA.out]
          exact ⟨rfl, by rw [HPB.out]; exact HEnd.out⟩
      | true =>
        rw [hon] at he
        obtain ⟨rfl, hb2⟩ := he
        have HR2 := Lib.hid (HRW.out.below hb2)
        have HB2 := Lib.hid (HBW.out.trans (hb2.mono HRW.out.size))
        have HRA := Lib.hid (show readAll ls = .inl s.p by unfold readAll; rw [HTA.out]; simp only [hon]; rfl)
        have HPz := Lib.hid ((HB2.out.block pb (by omega)).trans HP.out)
        have HLz := Lib.hid ((HB2.out.block lb (by omega)).trans HL.out)
        have HEz := Lib.hid ((HB2.out.block eb (by omega)).trans HE.out)
        obtain ⟨uA, ucap, hu, -, -⟩ := own_form HR2.out.us
        obtain ⟨fA, fcap, hf, -, -⟩ := own_form HR2.out.fs
        subst hu hf
        obtain ⟨⟨a0, a1, a2, a3, a4, a5⟩, a6, a7, a8⟩ := HR2.out.cells
        have HUS := Lib.hid HR2.out.us
        have HFS := Lib.hid HR2.out.fs
        obtain ⟨n0, hn0⟩ : ∃ x, x = s.p.ns.getD 0 0 := ⟨_, rfl⟩
        rw [← hn0] at a0
        have HN0 := Lib.hid hn0
        clear hn0
        obtain ⟨n1, hn1⟩ : ∃ x, x = s.p.ns.getD 1 0 := ⟨_, rfl⟩
        rw [← hn1] at a1
        have HN1 := Lib.hid hn1
        clear hn1
        obtain ⟨n2, hn2⟩ : ∃ x, x = s.p.ns.getD 2 0 := ⟨_, rfl⟩
        rw [← hn2] at a2
        have HN2 := Lib.hid hn2
        clear hn2
        obtain ⟨n3, hn3⟩ : ∃ x, x = s.p.ns.getD 3 0 := ⟨_, rfl⟩
        rw [← hn3] at a3
        have HN3 := Lib.hid hn3
        clear hn3
        obtain ⟨n4, hn4⟩ : ∃ x, x = s.p.ns.getD 4 0 := ⟨_, rfl⟩
        rw [← hn4] at a4
        have HN4 := Lib.hid hn4
        clear hn4
        obtain ⟨n5, hn5⟩ : ∃ x, x = s.p.ns.getD 5 0 := ⟨_, rfl⟩
        rw [← hn5] at a5
        have HN5 := Lib.hid hn5
        clear hn5
        obtain ⟨hid, hhid⟩ : ∃ x : ByteArray, x = ⟨s.p.hid.toArray⟩ := ⟨_, rfl⟩
        rw [← hhid] at a6
        have HHID := Lib.hid hhid
        clear hhid
        obtain ⟨p0, p1, p2, p3, p4, p5, p6, p7, p8⟩ := zero_cells HPz.out
        have z0 := L.blk_free HPz.out 0
        have z1 := L.blk_free HPz.out 1
        have z2 := L.blk_free HPz.out 2
        have z3 := L.blk_free HPz.out 3
        have z4 := L.blk_free HPz.out 4
        have z5 := L.blk_free HPz.out 5
        have z6 := L.blk_free HPz.out 6
        have z7 := L.blk_free HPz.out 7
        have z8 := L.blk_free HPz.out 8
        have l0 : w2.cell? ⟨lb, 0, none⟩ = some (.int .i64 0) := L.blk_cell HLz.out 0
        have zl := L.blk_free HLz.out 0
        have e0 : w2.cell? ⟨eb, 0, none⟩ = some (.int .i64 0) := L.blk_cell HEz.out 0
        have ze := L.blk_free HEz.out 0
        have d1 : ¬ pb = rb := by omega
        have d2 : ¬ rb = pb := by omega
        have d3 : ¬ lb = pb := by omega
        have d4 : ¬ pb = lb := by omega
        have d5 : ¬ eb = pb := by omega
        have d6 : ¬ pb = eb := by omega
        have d7 : ¬ eb = lb := by omega
        have d8 : ¬ lb = eb := by omega
        clear hb2 hon HTA HBW HRW
        go_wp2_with fail
        clear a0 a1 a2 a3 a4 a5 a6 a7 a8 p0 p1 p2 p3 p4 p5 p6 p7 p8 z0 z1 z2 z3 z4 z5 z6 z7 z8 l0 zl e0 ze
        have HZ := Lib.hid (stored9 (pb := pb) (.int .i64 n0) (.int .i64 n1) (.int .i64 n2) (.int .i64 n3) (.int .i64 n4) (.int .i64 n5) (.string hid) (.slice uA s.p.us.length ucap) (.slice fA s.p.fs.length fcap) HPz.out)
        obtain ⟨W9, hW9⟩ : ∃ W9 : World, W9 = (((((((((w2.setCell ⟨pb, 0, none⟩ (.int .i64 n0)).setCell ⟨pb, 1, none⟩ (.int .i64 n1)).setCell ⟨pb, 2, none⟩ (.int .i64 n2)).setCell ⟨pb, 3, none⟩ (.int .i64 n3)).setCell ⟨pb, 4, none⟩ (.int .i64 n4)).setCell ⟨pb, 5, none⟩ (.int .i64 n5)).setCell ⟨pb, 6, none⟩ (.string hid)).setCell ⟨pb, 7, none⟩ (.slice uA s.p.us.length ucap)).setCell ⟨pb, 8, none⟩ (.slice fA s.p.fs.length fcap)) := ⟨_, rfl⟩
        rw [← hW9] at HZ ⊢
        clear hW9
        have y2 := L.blk_set ((HZ.out.far lb d3).trans HLz.out) 0 (.int .i64 0)
        have y3 := L.blk_set ((L.blk_far (i := 0) d7 (.int .i64 0)).trans ((HZ.out.far eb d5).trans HEz.out)) 0 (.int .i64 0)
        obtain ⟨W3, hW3⟩ : ∃ W3 : World, W3 = (W9.setCell ⟨lb, 0, none⟩ (.int .i64 0)).setCell ⟨eb, 0, none⟩ (.int .i64 0) := ⟨_, rfl⟩
        have r1 : W3.heap[pb]? = some (.cells #[.int .i64 n0, .int .i64 n1, .int .i64 n2, .int .i64 n3, .int .i64 n4, .int .i64 n5, .string hid, .slice uA s.p.us.length ucap, .slice fA s.p.fs.length fcap] 26 (0, 0)) := by rw [hW3]; exact (L.blk_far d6 _).trans ((L.blk_far d4 _).trans HZ.out.now)
        have r2 : W3.heap[lb]? = some (.cells #[.int .i64 0] 3 (0, 0)) := by rw [hW3]; exact (L.blk_far d8 _).trans y2
        have r3 : W3.heap[eb]? = some (.cells #[.int .i64 0] 27 (0, 0)) := by rw [hW3]; exact y3
        have hB3 : Below pb w2 W3 := by rw [hW3]; exact ((HZ.out.below pb (Nat.le_refl _)).setCell (p := ⟨lb, 0, none⟩) (by show pb ≤ lb; omega) _).setCell (p := ⟨eb, 0, none⟩) (by show pb ≤ eb; omega) _
        have hfar : ∀ g, mb ≤ g → W3.heap[g]? = w2.heap[g]? := fun g hg => by rw [hW3]; exact (L.blk_far (by omega) _).trans ((L.blk_far (by omega) _).trans (HZ.out.far g (by omega)))
        have hsz : w2.heap.size ≤ W3.heap.size := hB3.size
        rw [← hW3]
        clear hW3 y2 y3
        have HB3 := Lib.hid (HBEL.out.trans ((HB2.out.mono (by omega)).trans hB3))
        have HU3 := Lib.hid (own_moved HUS.out hfar (by omega : pb ≤ mb))
        have HF3 := Lib.hid (own_moved HFS.out hfar (by omega : pb ≤ mb))
        obtain ⟨p0, p1, p2, p3, p4, p5, p6, p7, p8⟩ := pol_cells r1
        have l0 : W3.cell? ⟨lb, 0, none⟩ = some (.int .i64 0) := L.blk_cell r2 0
        have e0 : W3.cell? ⟨eb, 0, none⟩ = some (.int .i64 0) := L.blk_cell r3 0
        refine leaves_cons (f := 63) (args := #[.pointer (some ⟨rb, 0, none⟩), .pointer (some ⟨pb, 0, none⟩), .pointer (some ⟨lb, 0, none⟩), .pointer (some ⟨eb, 0, none⟩)]) (by simp) (by simp [go_sem]) ?_
        refine (catch_idle _ _ _ _ _).mono ?_
        rintro e u' w3 ⟨rfl, rfl, rfl⟩
        refine ⟨.tuple #[.agg #[.int .i64 n0, .int .i64 n1, .int .i64 n2, .int .i64 n3, .int .i64 n4, .int .i64 n5, .string hid, .slice uA s.p.us.length ucap, .slice fA s.p.fs.length fcap], .int .i64 0, .int .i64 0], ?_, ?_⟩
        · simp [results, Tryd.results35, go_sem, p0, p1, p2, p3, p4, p5, p6, p7, p8, l0, e0]
        · rw [HRA.out]
          refine ⟨⟨_, _, by rw [HN0.out, HN1.out, HN2.out, HN3.out, HN4.out, HN5.out, HHID.out], by rw [HPB.out]; exact HU3.out, by rw [HPB.out]; exact HF3.out⟩, by rw [HPB.out]; exact HB3.out⟩
end Go.Proofs.YtadhhamfikpimaaDoor.O
