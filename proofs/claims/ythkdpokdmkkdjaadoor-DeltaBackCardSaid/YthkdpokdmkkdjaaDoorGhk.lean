/-
  The contract of delta's lines: a part's lines.
-/
import Derived.Test.YthkdpokdmkkdjaaDoorGhi
import Derived.Test.YthkdpokdmkkdjaaDoorGhj
import Derived.Deep.AppendLies
import Derived.Laws.OwnMore
import Derived.Deep.RegionHeldLaw
import Derived.Deep.DrawnRows
namespace Go.Proofs.YthkdpokdmkkdjaaDoor.Dl
set_option linter.unusedVariables false
set_option linter.unusedSimpArgs false
open Go.RowKit Go.Maps
open T
open V (drawn_below grown_of)
open I (It ItemsIn ItemsAt itCells itCells_snoc itCells_at alloc1 own_at own_below items_of_own items_own infoItem ItemsIn.below)

/-- The text of a line that stays, of an item's line. -/
def cpw (at_ n : Int) : List (List UInt8) := [[99, 111, 112, 121], P.decimal at_, P.decimal n]
def itw (x : It) : List (List UInt8) := [[105, 116, 101, 109], P.decimal x.id, L.print x.lv x.ct, knd x, x.tx]
def cpln (at_ n : Int) : List UInt8 := Lib.join (cpw at_ n) [32]
def itln (x : It) : List UInt8 := Lib.join (itw x) [32]
def itls (l : List It) : List (List UInt8 × Bool) := l.map fun x => (itln x, false)
/-- A part's lines. -/
def plns (at_ n : Int) (l : List It) : List (List UInt8 × Bool) := if l = [] then [(cpln at_ n, false)] else itls l
theorem knd_len (x : It) : (knd x).length ≤ 2 := by unfold knd; rw [List.length_append]; split <;> split <;> simp
theorem cpln_is (at_ n : Int) : cpln at_ n = [99, 111, 112, 121] ++ 32 :: (P.decimal at_ ++ 32 :: P.decimal n) := by simp [cpln, cpw, Lib.join]
theorem itln_is (x : It) : itln x = [105, 116, 101, 109] ++ 32 :: (P.decimal x.id ++ 32 :: (L.print x.lv x.ct ++ 32 :: (knd x ++ 32 :: x.tx))) := by simp [itln, itw, Lib.join]
theorem cpln_len (at_ n : Int) : (cpln at_ n).length ≤ 100 := by
  have h1 := P.decimal_length at_
  have h2 := P.decimal_length n
  simp only [cpln_is, List.length_append, List.length_cons, List.length_nil]
  omega
theorem itln_len (x : It) (h : x.tx.length ≤ 200) : (itln x).length ≤ 2000 := by
  have h1 := P.decimal_length x.id
  have h2 := L.print_len x.lv x.ct
  have h3 := knd_len x
  simp only [itln_is, List.length_append, List.length_cons, List.length_nil]
  omega
theorem itls_snoc {l : List It} {k : Nat} (h : k < l.length) : lineCells (itls (l.take (k + 1))) = lineCells (itls (l.take k)) ++ [.string ⟨(itln l[k]).toArray⟩, .bool false] := by
  unfold itls
  rw [List.take_succ_eq_append_getElem h, List.map_append, List.map_cons, List.map_nil, lineCells_snoc]
/-- A line of a row of words. -/
theorem ln_words {W : World} {g cap : Nat} (ws : List (List UInt8)) (hc : ∀ (j : Nat) (hj : j < ws.length), W.cell? ⟨g, j, none⟩ = some (.string ⟨ws[j].toArray⟩)) (hg : g < W.heap.size) (hcap : ws.length ≤ cap) (hN : ws.length ≤ 5) (hl : (Lib.join ws [32]).length ≤ 140737488355328) :
    Calls Tryd.prog 33 #[.slice (some ⟨g, 0, none⟩) ws.length cap] W fun e w' => e = .returned (.agg #[.string ⟨(Lib.join ws [32]).toArray⟩, .bool false]) ∧ Below W.heap.size W w' := by
  have e : (ws.map fun l => (⟨l.toArray⟩ : ByteArray)).map (·.data.toList) = ws := by
    rw [List.map_map]
    exact (List.map_congr_left (fun l _ => rfl)).trans (List.map_id _)
  have := line_any g 0 cap (ws.map fun l => ⟨l.toArray⟩) W (fun j x hj => by
    rw [List.getElem?_map] at hj
    obtain ⟨l, h1, rfl⟩ := Option.map_eq_some_iff.1 hj
    obtain ⟨hj', rfl⟩ := List.getElem?_eq_some_iff.1 h1
    rw [Nat.zero_add]
    exact hc j hj') hg (by rw [List.length_map]; exact hcap) (by rw [List.length_map]; omega) (by rw [e]; exact hl)
  rw [e, List.length_map] at this
  exact this
theorem words_of {g : Nat} {W : World} {ws : List (List UInt8)} {cs : Array Value} {t : TypeId} (h : W.heap[g]? = some (.cells cs t (0, 0))) (hc : cs = (ws.map fun l => Value.string ⟨l.toArray⟩).toArray) : ∀ (j : Nat) (hj : j < ws.length), W.cell? ⟨g, j, none⟩ = some (.string ⟨ws[j].toArray⟩) := by
  intro j hj
  rw [L.blk_cell h j, hc]
  simp [hj]
def LsEnd (w : World) (ls : List (List UInt8 × Bool)) (e : Ending) (w' : World) : Prop := ∃ A cap, e = .returned (.slice A ls.length cap) ∧ w'.ownsRow w.heap.size 39 2 (.slice A ls.length cap) ls.length (lineCells ls) ∧ Below w.heap.size w w'
theorem cell2 (w : World) (a b : Value) (t : TypeId) : ∀ (j : Nat) (u : Value), [a, b][j]? = some u → (w.alloc (.cells #[a, b] t)).cell? ((⟨w.heap.size, 0, none⟩ : Addr).add j) = some u := World.news_of_block (heap_alloc_new w _)
/-- What stays while a region's row may grow. -/
structure Cx (W0 : World) (ob : Option Nat) (W : World) : Prop where
  g : W0.grownBy W ob
set_option maxRecDepth 100000 in
set_option maxHeartbeats 8000000 in
theorem lines_any (at_ n : Int) (C : Option Addr) (cc : Nat) (l : List It) (w : World) (hC : Ix w C cc l) (hl : l.length ≤ 1000000000) (hx : ∀ x ∈ l, x.tx.length ≤ 200 ∧ (-9223372036854775808 ≤ x.id ∧ x.id ≤ 9223372036854775807) ∧ (-9223372036854775808 ≤ x.lv ∧ x.lv ≤ 9223372036854775807) ∧ x.ct < 18446744073709551616)
    (ha : -9223372036854775808 ≤ at_ ∧ at_ ≤ 9223372036854775807) (hn : -9223372036854775808 ≤ n ∧ n ≤ 9223372036854775807) (hT : Tab w) :
    Calls Tryd.prog 34 #[.agg #[.int .i64 at_, .int .i64 n, .slice C l.length cc]] w (LsEnd w (plns at_ n l)) := by
  obtain ⟨i0, hi0, hz0, hz1, hz2⟩ := info_parts infoLine
  obtain ⟨W1, hW1⟩ : ∃ W : World, W = w.alloc (.cells #[.int .i64 at_, .int .i64 n, .slice C l.length cc] 27) := ⟨_, rfl⟩
  have hx1 : W1.heap[w.heap.size]? = some (.cells #[.int .i64 at_, .int .i64 n, .slice C l.length cc] 27 (0, 0)) := by rw [hW1]; exact heap_alloc_new w _
  have HB1 := Lib.hid (show Below w.heap.size w W1 by rw [hW1]; exact alloc1 _ _)
  have HC := Lib.hid hC
  have HX := Lib.hid (fun (k : Nat) (h : k < l.length) => hx l[k] (List.getElem_mem h))
  have HT := Lib.hid hT
  have e0 := L.blk_cell hx1 0
  have e1 := L.blk_cell hx1 1
  have e2 := L.blk_cell hx1 2
  simp only [List.getElem?_toArray, List.getElem?_cons_zero, List.getElem?_cons_succ] at e0 e1 e2
  clear hC hx hT
  by_cases h0 : l = []
  · subst h0
    simp only [List.length_nil] at *
    have HV : Hid (plns at_ n [] = [(cpln at_ n, false)]) := Lib.hid rfl
    generalize plns at_ n [] = res at *
    have HTB := Lib.hid (fun (W : World) (h : Below W1.heap.size W1 W) => (HT.out.later (HB1.out.trans (h.mono HB1.out.size))))
    have HDA : Hid (∀ W, Below W1.heap.size W1 W → Calls Tryd.prog 49 #[.int .i64 at_] W fun e w' => e = .returned (.string ⟨(P.decimal at_).toArray⟩) ∧ Below W1.heap.size W1 w') := Lib.hid (fun W h => (decimal_any at_ W ha.1 ha.2 (HTB.out W h)).mono fun e w' h' => ⟨h'.1, h.trans (h'.2.mono h.size)⟩)
    have HDN : Hid (∀ W, Below W1.heap.size W1 W → Calls Tryd.prog 49 #[.int .i64 n] W fun e w' => e = .returned (.string ⟨(P.decimal n).toArray⟩) ∧ Below W1.heap.size W1 w') := Lib.hid (fun W h => (decimal_any n W hn.1 hn.2 (HTB.out W h)).mono fun e w' h' => ⟨h'.1, h.trans (h'.2.mono h.size)⟩)
    have HLN : Hid (∀ W, Below W1.heap.size W1 W → Calls Tryd.prog 33 #[.slice (some ⟨W.heap.size, 0, none⟩) 3 3] (W.alloc (.cells #[.string ⟨#[99, 111, 112, 121]⟩, .string ⟨(P.decimal at_).toArray⟩, .string ⟨(P.decimal n).toArray⟩] 9)) fun e w' => e = .returned (.agg #[.string ⟨(cpln at_ n).toArray⟩, .bool false]) ∧ Below W1.heap.size W1 w') := Lib.hid (fun W h => (ln_words (cpw at_ n) (words_of (heap_alloc_new W _) rfl) (by simp) (Nat.le_refl _) (by simp [cpw]) (Nat.le_trans (cpln_len at_ n) (by decide))).mono fun e w' h' => ⟨h'.1, (h.trans ((alloc1 W _).mono h.size)).trans (h'.2.mono ((h.trans ((alloc1 W _).mono h.size)).size))⟩)
    have HSX : Hid (∀ W, Below W1.heap.size W1 W → (W.cell? ⟨w.heap.size, 0, none⟩ = some (.int .i64 at_) ∧ W.cell? ⟨w.heap.size, 1, none⟩ = some (.int .i64 n) ∧ Below W1.heap.size W1 W)) := Lib.hid (fun W h => ⟨(h.cell (p := ⟨w.heap.size, _, none⟩) (L.blk_lt hx1)).trans e0, (h.cell (p := ⟨w.heap.size, _, none⟩) (L.blk_lt hx1)).trans e1, h⟩)
    have HSA : Hid (∀ W o, Below W1.heap.size W1 W → (∃ W', W' = W.alloc o ∧ (W'.cell? ⟨w.heap.size, 0, none⟩ = some (.int .i64 at_) ∧ W'.cell? ⟨w.heap.size, 1, none⟩ = some (.int .i64 n) ∧ Below W1.heap.size W1 W'))) := Lib.hid (fun W o h => ⟨_, rfl, HSX.out _ (h.trans ((alloc1 W o).mono h.size))⟩)
    have HND : Hid (∀ W, Below W1.heap.size W1 W → LsEnd w res (.returned (.slice (some ⟨W.heap.size, 0, none⟩) 1 1)) (W.alloc (.cells #[.string ⟨(cpln at_ n).toArray⟩, .bool false] 39))) := Lib.hid (fun W h => by
      rw [HV.out]
      have hb := HB1.out.trans (h.mono HB1.out.size)
      exact ⟨_, _, rfl, World.ownsRow_lit W #[.string ⟨(cpln at_ n).toArray⟩, .bool false] 1 hb.size (by decide) rfl, hb.trans ((alloc1 W _).mono hb.size)⟩)
    generalize (⟨(cpln at_ n).toArray⟩ : ByteArray) = y at *
    generalize (⟨(P.decimal at_).toArray⟩ : ByteArray) = s1 at *
    generalize (⟨(P.decimal n).toArray⟩ : ByteArray) = s2 at *
    go_enter Tryd.func34, Tryd.ntmps34
    go_upto_region 1 with fail
    rw [← hW1]
    obtain ⟨xb, hxb⟩ : ∃ q, q = w.heap.size := ⟨_, rfl⟩
    have HXB := Lib.hid hxb
    rw [← hxb] at HSX e0 e1 e2 ⊢
    clear hW1 hx1 hxb HSA
    go_upto_region 2 with fail
    go_cut [2] (fun v wz => ∃ W, v = .slice (some ⟨W.heap.size, 0, none⟩) 1 1 ∧ wz = W.alloc (.cells #[.string y, .bool false] 39) ∧ Hid (Below W1.heap.size W1 W))
    case first =>
      go_region_held3 (fun W => W.cell? ⟨xb, 0, none⟩ = some (.int .i64 at_) ∧ W.cell? ⟨xb, 1, none⟩ = some (.int .i64 n) ∧ Below W1.heap.size W1 W)
        (first | exact HSX.out _ ((Below.refl _ _).drew) | exact HSX.out _ (by assumption) | exact HSX.out _ (Below.alloc (by assumption) (by assumption) _))
        (first | (go_at_call 49; with_reducible refine (HDA.out _ (And.right (And.right (by assumption)))).mono ?_; rintro r wq ⟨rfl, hbq⟩; have hsq := hbq.size) | (go_at_call 49; with_reducible refine (HDN.out _ (And.right (And.right (by assumption)))).mono ?_; rintro r wq ⟨rfl, hbq⟩; have hsq := hbq.size) | (go_at_call 33; with_reducible refine (HLN.out _ (by assumption)).mono ?_; rintro r wq ⟨rfl, hbq⟩; have hsq := hbq.size))
      all_goals
        go_wp2_with fail
        go_meet
        case rel => exact ⟨_, rfl, rfl, Lib.hid (by assumption)⟩
    case rest =>
    obtain ⟨W, rfl, rfl, HZ⟩ := hcut
    go_wp2_with fail
    go_ret
    exact HND.out _ HZ.out
  · have hlp : 0 < l.length := List.length_pos_iff.2 h0
    have HV : Hid (plns at_ n l = itls l) := Lib.hid (if_neg h0)
    have hlz : ((l.length : Int) == 0) = false := beq_eq_false_iff_ne.2 (by omega)
    generalize plns at_ n l = res at *
    have HL0 := Lib.hid (fun (k : Nat) (h : k < l.length) => itls_snoc h)
    obtain ⟨ck, hck⟩ : ∃ ck : Nat → List Value, ∀ k, lineCells (itls (l.take k)) = ck k := ⟨fun k => lineCells (itls (l.take k)), fun _ => rfl⟩
    have HC0 : Hid (ck 0 = []) := Lib.hid (by rw [← hck]; rfl)
    have HCE : Hid (ck l.length = lineCells res) := Lib.hid (by rw [← hck, List.take_length, HV.out])
    have HRL : Hid (l.length = res.length) := Lib.hid (by rw [HV.out]; unfold itls; rw [List.length_map])
    simp only [hck] at HL0
    clear hck h0 HV ha hn
    go_enter Tryd.func34, Tryd.ntmps34
    go_upto_region 1 with fail
    rw [← hW1]
    obtain ⟨xb, hxb⟩ : ∃ q, q = w.heap.size := ⟨_, rfl⟩
    have HXB := Lib.hid hxb
    rw [← hxb] at e0 e1 e2 ⊢
    clear hW1 hx1 hxb e0 e1
    go_wp2_with fail
    clear e2
    go_loopg [3, 22] l.length (fun m v i wr => ∃ (k : Nat) (VA : Option Addr) (vc : Nat), k ≤ l.length ∧ i = .int .i64 (k : Int) ∧ v = .slice VA k vc ∧ l.length - k ≤ m ∧ wr.ownsRow w.heap.size 39 2 (.slice VA k vc) k (ck k) ∧ Below w.heap.size w wr)
    case atStart => exact ⟨0, none, 0, Nat.zero_le _, rfl, rfl, by omega, by rw [HC0.out]; exact World.ownsRow_nil _ _ _ _, HB1.out⟩
    case round =>
      obtain ⟨k, VA, vc, hk, rfl, rfl, hm, hown, hbr⟩ := hrel
      by_cases hlt : k < l.length
      · obtain ⟨bk, off, hAe, hbk, g0, g1, g2, g3, g4, g5⟩ := it_at (HC.out.below hbr).i hlt
        subst hAe
        have HT1 := Lib.hid (HL0.out k hlt)
        obtain ⟨x1, x2, x3, x4⟩ := HX.out k hlt
        have h0k : (0 : Int) ≤ (k : Int) := by omega
        have hki : (k : Int) < (l.length : Int) := by omega
        obtain ⟨x, hx⟩ : ∃ x, x = l[k]'hlt := ⟨_, rfl⟩
        rw [← hx] at g0 g1 g2 g3 g4 g5 HT1 x1 x2 x3 x4
        obtain ⟨W2, hW2⟩ : ∃ W : World, W = wr.alloc (.cells #[.int .i64 x.id, .int .i64 x.lv, .int .u64 (x.ct : Int), .bool x.an, .string ⟨x.tx.toArray⟩, .bool x.ba] 41) := ⟨_, rfl⟩
        have hb1 : Below wr.heap.size wr W2 := by rw [hW2]; exact alloc1 _ _
        have hx3 : W2.heap[wr.heap.size]? = some (.cells #[.int .i64 x.id, .int .i64 x.lv, .int .u64 (x.ct : Int), .bool x.an, .string ⟨x.tx.toArray⟩, .bool x.ba] 41 (0, 0)) := by rw [hW2]; exact heap_alloc_new wr _
        have HB3 := Lib.hid (hbr.trans (hb1.mono hbr.size))
        have HO := Lib.hid (own_below hown hb1)
        have HNE := Lib.hid (V.own_ne' HO.out (fun cs e => by rw [hx3] at e; injection e with e; injection e with _ e; exact absurd e (by decide)))
        have hsz := HB3.out.size
        have hlt2 := L.blk_lt hx3
        obtain ⟨ob, hob⟩ : ∃ ob, ob = (Value.slice VA k vc).ownBlock := ⟨_, rfl⟩
        rw [← hob] at HNE
        obtain ⟨bb, hbb⟩ : ∃ q, q = wr.heap.size := ⟨_, rfl⟩
        rw [← hbb] at hx3 HNE hlt2
        have HSC : Hid (∀ W, Cx W2 ob W → (W.cell? ⟨bb, 0, none⟩ = some (.int .i64 x.id) ∧ W.cell? ⟨bb, 1, none⟩ = some (.int .i64 x.lv) ∧ W.cell? ⟨bb, 2, none⟩ = some (.int .u64 (x.ct : Int)) ∧ W.cell? ⟨bb, 3, none⟩ = some (.bool x.an) ∧ W.cell? ⟨bb, 4, none⟩ = some (.string ⟨x.tx.toArray⟩) ∧ W.cell? ⟨bb, 5, none⟩ = some (.bool x.ba) ∧ Cx W2 ob W)) := Lib.hid (fun W h => by
          have hh := h.g.block bb hlt2 HNE.out
          have hx4 := hh.trans hx3
          exact ⟨L.blk_cell hx4 0, L.blk_cell hx4 1, L.blk_cell hx4 2, L.blk_cell hx4 3, L.blk_cell hx4 4, L.blk_cell hx4 5, h⟩)
        have HSB : Hid (∀ W, Below W2.heap.size W2 W → Cx W2 ob W) := Lib.hid (fun W h => ⟨grown_of h _⟩)
        have HTB := Lib.hid (fun (W : World) (h : Below W2.heap.size W2 W) => (HT.out.later (HB3.out.trans (h.mono HB3.out.size))))
        have HDA : Hid (∀ W, Below W2.heap.size W2 W → Calls Tryd.prog 49 #[.int .i64 x.id] W fun e w' => e = .returned (.string ⟨(P.decimal x.id).toArray⟩) ∧ Below W2.heap.size W2 w') := Lib.hid (fun W h => (decimal_any x.id W x2.1 x2.2 (HTB.out W h)).mono fun e w' h' => ⟨h'.1, h.trans (h'.2.mono h.size)⟩)
        have HDN : Hid (∀ W, Below W2.heap.size W2 W → Calls Tryd.prog 50 #[.agg #[.int .i64 x.lv, .int .u64 (x.ct : Int)]] W fun e w' => e = .returned (.string ⟨(L.print x.lv x.ct).toArray⟩) ∧ Below W2.heap.size W2 w') := Lib.hid (fun W h => (L.print_any x.lv x.ct W x3.1 x3.2 x4 (HTB.out W h)).mono fun e w' h' => ⟨h'.1, h.trans (h'.2.mono h.size)⟩)
        have HDK : Hid (∀ W, Below W2.heap.size W2 W → Calls Tryd.prog 51 #[.agg #[.int .i64 x.id, .int .i64 x.lv, .int .u64 (x.ct : Int), .bool x.an, .string ⟨x.tx.toArray⟩, .bool x.ba]] W fun e w' => e = .returned (.string ⟨(knd x).toArray⟩) ∧ Below W2.heap.size W2 w') := Lib.hid (fun W h => (kind_any x W).mono fun e w' h' => ⟨h'.1, h.trans (h'.2.mono h.size)⟩)
        have HLN : Hid (∀ W, Below W2.heap.size W2 W → Calls Tryd.prog 33 #[.slice (some ⟨W.heap.size, 0, none⟩) 5 5] (W.alloc (.cells #[.string ⟨#[105, 116, 101, 109]⟩, .string ⟨(P.decimal x.id).toArray⟩, .string ⟨(L.print x.lv x.ct).toArray⟩, .string ⟨(knd x).toArray⟩, .string ⟨x.tx.toArray⟩] 9)) fun e w' => e = .returned (.agg #[.string ⟨(itln x).toArray⟩, .bool false]) ∧ Below W2.heap.size W2 w') := Lib.hid (fun W h => (ln_words (itw x) (words_of (heap_alloc_new W _) rfl) (by simp) (Nat.le_refl _) (by simp [itw]) (Nat.le_trans (itln_len x x1) (by decide))).mono fun e w' h' => ⟨h'.1, (h.trans ((alloc1 W _).mono h.size)).trans (h'.2.mono ((h.trans ((alloc1 W _).mono h.size)).size))⟩)
        have HOA : Hid (∀ W o, Below W2.heap.size W2 W → (W.alloc o).ownsRow w.heap.size 39 2 (.slice VA k vc) k (ck k)) := Lib.hid (fun W o h => World.ownsRow.alloc (own_below HO.out h) o)
        have HSZ : Hid (∀ (W : World) (o : Obj), Below W2.heap.size W2 W → w.heap.size ≤ (W.alloc o).heap.size) := Lib.hid (fun W o h => by have := h.size; simp; omega)
        have HFG : Hid (∀ (W : World) (o : Obj) (w6 : World), (W.alloc o).grownBy w6 ob → Below W2.heap.size W2 W → Cx W2 ob w6 ∧ Hid (Below w.heap.size w w6)) := Lib.hid (fun W o w6 hg h => by
          have h2 := h.trans ((alloc1 W o).mono h.size)
          refine ⟨⟨(grown_of h2 _).trans hg⟩, Lib.hid ((HB3.out.trans (h2.mono hsz)).grown hg (Nat.le_trans hsz h2.size) (fun k2 e => (World.ownsRow.lt HO.out k2 (by rw [← hob]; exact e)).1))⟩)
        have H1C : Hid (∀ u ∈ ([.string ⟨(itln x).toArray⟩, .bool false] : List Value), u.oneCell' = true) := Lib.hid (by intro u hu; simp at hu; rcases hu with rfl | rfl <;> rfl)
        generalize (⟨(itln x).toArray⟩ : ByteArray) = y at *
        generalize (⟨(P.decimal x.id).toArray⟩ : ByteArray) = s1 at *
        generalize (⟨(L.print x.lv x.ct).toArray⟩ : ByteArray) = s2 at *
        generalize (⟨(knd x).toArray⟩ : ByteArray) = s3 at *
        generalize (⟨x.tx.toArray⟩ : ByteArray) = s4 at *
        generalize x.id = id at *
        generalize x.lv = lv at *
        generalize x.ct = ct at *
        generalize x.an = an at *
        generalize x.ba = ba at *
        go_upto_region 7 with fail
        rw [← hW2, ← hbb]
        clear hx hbk hbr hb1 hx3 x1 x2 x3 x4 hown hW2 hbb g0 g1 g2 g3 g4 g5
        go_region_held3 (fun W => W.cell? ⟨bb, 0, none⟩ = some (.int .i64 id) ∧ W.cell? ⟨bb, 1, none⟩ = some (.int .i64 lv) ∧ W.cell? ⟨bb, 2, none⟩ = some (.int .u64 (ct : Int)) ∧ W.cell? ⟨bb, 3, none⟩ = some (.bool an) ∧ W.cell? ⟨bb, 4, none⟩ = some (.string s4) ∧ W.cell? ⟨bb, 5, none⟩ = some (.bool ba) ∧ Cx W2 ob W)
          (first | exact HSC.out _ (HSB.out _ ((Below.refl _ _).drew)) | exact HSC.out _ (by assumption) | exact HSC.out _ (HSB.out _ (by assumption)) | exact HSC.out _ (HSB.out _ (Below.alloc (by assumption) (by assumption) _)))
          (first
            | (go_at_call 49; with_reducible refine (HDA.out _ (by first | assumption | exact (Below.refl _ _).drew)).mono ?_; rintro r wq ⟨rfl, hbq⟩; have hsq := hbq.size)
            | (go_at_call 50; with_reducible refine (HDN.out _ (by first | assumption | exact (Below.refl _ _).drew)).mono ?_; rintro r wq ⟨rfl, hbq⟩; have hsq := hbq.size)
            | (go_at_call 51; with_reducible refine (HDK.out _ (by first | assumption | exact (Below.refl _ _).drew)).mono ?_; rintro r wq ⟨rfl, hbq⟩; have hsq := hbq.size)
            | (go_at_call 33; with_reducible refine (HLN.out _ (by first | assumption | exact (Below.refl _ _).drew)).mono ?_; rintro r wq ⟨rfl, hbq⟩; have hsq := hbq.size)
            | (refine step_append_lies _ (by rfl) (.tmp 26) (.tmp 40) 61 (by rfl) w.heap.size 39 i0 _ 2 24 Tryd.underlying61 hi0 hz0 hz1 hz2 rfl (by decide) (.slice VA k vc) k (ck k) (by rfl) (HOA.out _ _ (by assumption)) _ 1 1 [.string y, .bool false] (by rfl) rfl (cell2 _ _ _ _) H1C.out (by omega) (by unfold maxLen; omega) (by omega) (HSZ.out _ _ (by assumption)) _ rfl ?_; intro g6 cap6 w6 hown6 hg6 hat6 hlt6; have hcx := (HFG.out _ _ _ (by rw [hob]; exact hg6) (by assumption)).1; have hbf := (HFG.out _ _ _ (by rw [hob]; exact hg6) (by assumption)).2; have hown7 := Lib.hid hown6; clear hown6 hg6 hat6 hlt6))
        all_goals
          rw [← HT1.out] at hown7
          clear HT1 HSC HSB HTB HDA HDN HDK HLN HOA HSZ HFG H1C HNE HO HB3
          go_wp2_with fail
          go_roundg (l.length - (k + 1))
          case rel => exact ⟨k + 1, some ⟨g6, 0, none⟩, cap6, by omega, by go_num, rfl, Nat.le_refl _, hown7.out, hbf.out⟩
          case measure => omega
      · obtain rfl : k = l.length := by omega
        rw [HCE.out] at hown
        go_wp2_with fail
        go_ret
        exact ⟨VA, vc, by rw [← HRL.out]; rfl, by rw [← HRL.out]; exact hown, hbr⟩
end Go.Proofs.YthkdpokdmkkdjaaDoor.Dl
