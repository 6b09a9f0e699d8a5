/-
  Layer 21: request: the request of a line's words.
-/
import Derived.Test.YtddakaeacgojmaaDoorGwf
import Derived.Test.YtddakaeacgojmaaDoorGwd
import Derived.Deep.DeepCutAuto
namespace Go.Proofs.YtddakaeacgojmaaDoor.Wr
set_option linter.unusedVariables false
set_option linter.unusedSimpArgs false
open Go.RowKit
open T L

theorem alloc1 (W : World) (o : Obj) : Below W.heap.size W (W.alloc o) := (Below.refl _ _).alloc (Nat.le_refl _) o

/-- Words in memory, from one of them on. -/
def WsAt (w : World) (g o : Nat) (ws : List (List UInt8)) : Prop := ∀ j (h : j < ws.length), w.cell? ⟨g, o + j, none⟩ = some (.string ⟨ws[j].toArray⟩)
theorem WsAt.below {w w' : World} {g o B : Nat} {ws : List (List UInt8)} (h : WsAt w g o ws) (hb : Below B w w') (hg : g < B) : WsAt w' g o ws :=
  fun j hj => (hb.cell (p := ⟨g, o + j, none⟩) hg).trans (h j hj)

/-- A request as a value. -/
def rqV (r : Rq) (B : Option Addr) (m : Nat) : Value := .agg #[.int .i64 r.vb, .int .i64 r.lv, .int .u64 (r.ct : Int), .string ⟨r.fi.toArray⟩, .int .i64 r.a, .int .i64 r.b, .int .i64 r.c, .slice B r.bo.length m]
def rq0 : Rq := ⟨0, 0, 0, [], 0, 0, 0, []⟩
def ReqEnd (o : Option Rq) (e : Ending) : Prop := match o with
  | some r => e = .returned (.tuple #[rqV r none 0, .bool true])
  | none => e = .returned (.tuple #[rqV rq0 none 0, .bool false])
theorem rq_s0 {W : World} {g : Nat} {vb lv : Int} {ct : Nat} {fi : ByteArray} {a b c : Int} {B : Option Addr} {n m : Nat} (h : RqAt W g vb lv ct fi a b c B n m) (x : Int) : RqAt (W.setCell ⟨g, 0, none⟩ (.int .i64 x)) g x lv ct fi a b c B n m := blk_set h 0 _
theorem rq_s1 {W : World} {g : Nat} {vb lv : Int} {ct : Nat} {fi : ByteArray} {a b c : Int} {B : Option Addr} {n m : Nat} (h : RqAt W g vb lv ct fi a b c B n m) (x : Int) : RqAt (W.setCell ⟨g, 1, none⟩ (.int .i64 x)) g vb x ct fi a b c B n m := blk_set h 1 _
theorem rq_s2 {W : World} {g : Nat} {vb lv : Int} {ct : Nat} {fi : ByteArray} {a b c : Int} {B : Option Addr} {n m : Nat} (h : RqAt W g vb lv ct fi a b c B n m) (x : Nat) : RqAt (W.setCell ⟨g, 2, none⟩ (.int .u64 (x : Int))) g vb lv x fi a b c B n m := blk_set h 2 _
theorem rq_all {W : World} {g : Nat} {vb lv : Int} {ct : Nat} {fi : ByteArray} {a b c : Int} {B : Option Addr} {n m : Nat} (h : RqAt W g vb lv ct fi a b c B n m)
    {vb' lv' : Int} {ct' : Nat} {fi' : ByteArray} {a' b' c' : Int} {B' : Option Addr} {n' m' : Nat} :
    RqAt ((((((((W.setCell ⟨g, 0, none⟩ (.int .i64 vb')).setCell ⟨g, 1, none⟩ (.int .i64 lv')).setCell ⟨g, 2, none⟩ (.int .u64 (ct' : Int))).setCell ⟨g, 3, none⟩ (.string fi')).setCell ⟨g, 4, none⟩ (.int .i64 a')).setCell ⟨g, 5, none⟩ (.int .i64 b')).setCell ⟨g, 6, none⟩ (.int .i64 c')).setCell ⟨g, 7, none⟩ (.slice B' n' m')) g vb' lv' ct' fi' a' b' c' B' n' m' :=
  (((((rq_s2 (rq_s1 (rq_s0 h vb') lv') ct').s3 fi').s4 a').s5 b').s6 c').s7 B' n' m'

/-- Where ws[k:] begins. -/
def dropW (o c k : Nat) : Nat := if c = k then o else o + k
theorem drop_w (g o n c k : Nat) (hkn : k ≤ n) (hnc : n ≤ c) (W : World) : Sem.run Tryd.prog (Instr.sliceAt 60 (.slice (some ⟨g, o, none⟩) n c) (some (.int .i64 (k : Int))) none none) W = .ok (.slice (some ⟨g, dropW o c k, none⟩) (n - k) (c - k)) W := by
  have h0k : (0 : Int) ≤ (k : Int) := by omega
  have hkn' : (k : Int) ≤ (n : Int) := by omega
  have hnc' : (n : Int) ≤ (c : Int) := by omega
  by_cases hc : c = k
  · subst hc
    obtain rfl : n = c := by omega
    rw [show dropW o n n = o from if_pos rfl, Nat.sub_self]
    go_simp
  · rw [show dropW o c k = o + k from if_neg hc]
    go_simp
theorem ws_drop {w : World} {g o c : Nat} {x : List UInt8} {ws : List (List UInt8)} (h : WsAt w g o (x :: ws)) (hc : (x :: ws).length ≤ c) : WsAt w g (dropW o c 1) ws := by
  intro j hj
  have hne : ¬ c = 1 := by simp at hc; omega
  rw [dropW, if_neg hne]
  exact (congrArg (fun q => w.cell? ⟨g, q, none⟩) (show o + 1 + j = o + (j + 1) by omega)).trans (h (j + 1) (by simp; omega))
theorem fil_drop (r : Rq) (s : List UInt8) (k : Nat) (h : k < s.length) (ws : List (List UInt8)) : fil r (s.drop k) ws = if s[k] = 43 then fil r (s.drop (k + 1)) ws else match ws with
    | [] => none
    | w :: t => match put r s[k] w with | some r' => fil r' (s.drop (k + 1)) t | none => none := by
  rw [List.drop_eq_getElem_cons h, fil.eq_def]
  cases ws <;> rfl
theorem fil_end (r : Rq) (s : List UInt8) (ws : List (List UInt8)) : fil r (s.drop s.length) ws = match ws with | [] => some r | _ :: _ => none := by
  rw [List.drop_length]; cases ws <;> rfl

set_option maxHeartbeats 16000000 in
set_option maxRecDepth 100000 in
theorem request_any (gw cap : Nat) (ws : List (List UInt8)) (w : World) (hK : Kt w) (hT : Tab w) (hg : gw < w.heap.size) (hw : WsAt w gw 0 ws) (hc : ws.length ≤ cap) (hl : ∀ x ∈ ws, x.length ≤ 4194304) (hn : ws.length ≤ 4194305) :
    Calls Tryd.prog 34 #[.slice (some ⟨gw, 0, none⟩) ws.length cap] w fun e w' => ReqEnd (req ws) e ∧ Below w.heap.size w w' := by
  obtain ⟨W1, hW1⟩ : ∃ W : World, W = w.alloc (.cells #[.int .i64 0, .int .i64 0, .int .u64 0, .string ⟨#[]⟩, .int .i64 0, .int .i64 0, .int .i64 0, .slice none 0 0] 28) := ⟨_, rfl⟩
  have HX : RqAt W1 w.heap.size 0 0 0 ⟨#[]⟩ 0 0 0 none 0 0 := by rw [hW1]; exact Array.getElem?_push_size
  have HB1 : Below w.heap.size w W1 := by rw [hW1]; exact (Below.refl w.heap.size w).alloc (Nat.le_refl _) _
  have hlt1 : w.heap.size < W1.heap.size := blk_lt HX
  by_cases h2 : ws.length < 2
  · have HE := Lib.hid (show req ws = none by
      rcases ws with _ | ⟨a, _ | ⟨b, r⟩⟩
      · rfl
      · rfl
      · exfalso; simp only [List.length_cons] at h2; omega)
    go_enter Tryd.func34, Tryd.ntmps34
    go_upto_region 1 with fail
    rw [← hW1]
    clear hW1
    have c0 := HX.c0
    have c1 := HX.c1
    have c2 := HX.c2
    have c3 := HX.c3
    have c4 := HX.c4
    have c5 := HX.c5
    have c6 := HX.c6
    have c7 := HX.c7
    have e0 := blk_free HX 0
    have e1 := blk_free HX 1
    have e2 := blk_free HX 2
    have e3 := blk_free HX 3
    have e4 := blk_free HX 4
    have e5 := blk_free HX 5
    have e6 := blk_free HX 6
    have e7 := blk_free HX 7
    go_wp2_with fail
    have hfin : RqAt ((((((((W1.setCell ⟨w.heap.size, 0, none⟩ (.int .i64 0)).setCell ⟨w.heap.size, 1, none⟩ (.int .i64 0)).setCell ⟨w.heap.size, 2, none⟩ (.int .u64 0)).setCell ⟨w.heap.size, 3, none⟩ (.string ⟨#[]⟩)).setCell ⟨w.heap.size, 4, none⟩ (.int .i64 0)).setCell ⟨w.heap.size, 5, none⟩ (.int .i64 0)).setCell ⟨w.heap.size, 6, none⟩ (.int .i64 0)).setCell ⟨w.heap.size, 7, none⟩ (.slice none 0 0)) w.heap.size 0 0 0 ⟨#[]⟩ 0 0 0 none 0 0 := rq_all HX
    have hbf : Below w.heap.size w ((((((((W1.setCell ⟨w.heap.size, 0, none⟩ (.int .i64 0)).setCell ⟨w.heap.size, 1, none⟩ (.int .i64 0)).setCell ⟨w.heap.size, 2, none⟩ (.int .u64 0)).setCell ⟨w.heap.size, 3, none⟩ (.string ⟨#[]⟩)).setCell ⟨w.heap.size, 4, none⟩ (.int .i64 0)).setCell ⟨w.heap.size, 5, none⟩ (.int .i64 0)).setCell ⟨w.heap.size, 6, none⟩ (.int .i64 0)).setCell ⟨w.heap.size, 7, none⟩ (.slice none 0 0)) := ((((((((HB1.setCell (p := ⟨w.heap.size, 0, none⟩) (Nat.le_refl _) _).setCell (p := ⟨w.heap.size, 1, none⟩) (Nat.le_refl _) _).setCell (p := ⟨w.heap.size, 2, none⟩) (Nat.le_refl _) _).setCell (p := ⟨w.heap.size, 3, none⟩) (Nat.le_refl _) _).setCell (p := ⟨w.heap.size, 4, none⟩) (Nat.le_refl _) _).setCell (p := ⟨w.heap.size, 5, none⟩) (Nat.le_refl _) _).setCell (p := ⟨w.heap.size, 6, none⟩) (Nat.le_refl _) _).setCell (p := ⟨w.heap.size, 7, none⟩) (Nat.le_refl _) _)
    clear c0 e0 c1 e1 c2 e2 c3 e3 c4 e4 c5 e5 c6 e6 c7 e7
    generalize ((((((((W1.setCell ⟨w.heap.size, 0, none⟩ (.int .i64 0)).setCell ⟨w.heap.size, 1, none⟩ (.int .i64 0)).setCell ⟨w.heap.size, 2, none⟩ (.int .u64 0)).setCell ⟨w.heap.size, 3, none⟩ (.string ⟨#[]⟩)).setCell ⟨w.heap.size, 4, none⟩ (.int .i64 0)).setCell ⟨w.heap.size, 5, none⟩ (.int .i64 0)).setCell ⟨w.heap.size, 6, none⟩ (.int .i64 0)).setCell ⟨w.heap.size, 7, none⟩ (.slice none 0 0)) = wf at *
    have c0 := hfin.c0
    have c1 := hfin.c1
    have c2 := hfin.c2
    have c3 := hfin.c3
    have c4 := hfin.c4
    have c5 := hfin.c5
    have c6 := hfin.c6
    have c7 := hfin.c7
    exact bodyPost_ret (v := .tuple #[rqV rq0 none 0, .bool false]) (by simp [results, Tryd.results34, go_sem, c0, c1, c2, c3, c4, c5, c6, c7, rqV, rq0]) rfl ⟨by rw [HE.out]; rfl, hbf⟩
  obtain ⟨w0, w1, t, rfl⟩ : ∃ w0 w1 t, ws = w0 :: w1 :: t := by
    match ws, h2 with
    | [], h => simp at h
    | [a], h => simp at h
    | a :: b :: r, _ => exact ⟨a, b, r, rfl⟩
  have hw1 := hw.below HB1 hg
  have h0 : W1.cell? ⟨gw, 0, none⟩ = some (.string ⟨w0.toArray⟩) := hw1 0 (by simp)
  have h1 : W1.cell? ⟨gw, 1, none⟩ = some (.string ⟨w1.toArray⟩) := hw1 1 (by simp)
  have HP := Lib.hid (L.parse_any ⟨w1.toArray⟩ W1 (by simpa [ByteArray.size] using hl w1 (by simp)) (Tab.later hT HB1))
  have HREQ := Lib.hid (show req (w0 :: w1 :: t) = match L.parse w1 with | some (lv, ct) => fil ⟨vrb w0, lv, ct, [], 0, 0, 0, []⟩ (sg (vrb w0)) t | none => none from rfl)
  have HWT := Lib.hid (show WsAt W1 gw 2 t from fun j hj => by
    exact (congrArg (fun o => W1.cell? ⟨gw, o, none⟩) (show 2 + j = 0 + (j + 2) by omega)).trans (hw1 (j + 2) (by simp; omega)))
  have HLT := Lib.hid (show ∀ x ∈ t, x.length ≤ 4194304 from fun x hx => hl x (by simp [hx]))
  have hn2 : t.length + 2 ≤ cap ∧ t.length + 2 ≤ 4194305 := ⟨by simpa using hc, by simpa using hn⟩
  generalize req (w0 :: w1 :: t) = res at *
  rw [show (w0 :: w1 :: t).length = t.length + 2 from rfl]
  clear hw hw1 hl hc hn h2
  obtain ⟨k, hk⟩ : ∃ k, k = t.length + 2 := ⟨_, rfl⟩
  rw [← hk] at hn2 ⊢
  have hk2 : 2 ≤ k := by omega
  cases hp : L.parse w1 with
  | none =>
    rw [hp] at HREQ
    rw [show (⟨w1.toArray⟩ : ByteArray).data.toList = w1 from rfl, hp, show parseVal none = .tuple #[.agg #[.int .i64 0, .int .u64 0], .bool false] from rfl] at HP
    go_enter Tryd.func34, Tryd.ntmps34
    go_upto_region 1 with fail
    rw [← hW1]
    clear hW1
    go_wp2_with fail
    refine HP.out.mono ?_
    rintro e w2 ⟨rfl, hb2⟩
    have HB2 := Lib.hid (HB1.trans (hb2.mono HB1.size))
    have HX2 := Lib.hid (show RqAt w2 w.heap.size 0 0 0 ⟨#[]⟩ 0 0 0 none 0 0 from (hb2.block _ hlt1).trans HX)
    obtain ⟨w3, hw3⟩ : ∃ W : World, W = w2.alloc (.cells #[.int .i64 0, .int .u64 0] 25) := ⟨_, rfl⟩
    have HA : Below w2.heap.size w2 w3 := by rw [hw3]; exact alloc1 _ _
    have HX3 : RqAt w3 w.heap.size 0 0 0 ⟨#[]⟩ 0 0 0 none 0 0 := (HA.block _ (blk_lt HX2.out)).trans HX2.out
    have HB3 : Below w.heap.size w w3 := HB2.out.trans (HA.mono HB2.out.size)
    go_upto_region 4 with fail
    rw [← hw3]
    clear hw3 HA HX2 HB2 HP h0 h1 hb2 HX HB1
    have c0 := HX3.c0
    have c1 := HX3.c1
    have c2 := HX3.c2
    have c3 := HX3.c3
    have c4 := HX3.c4
    have c5 := HX3.c5
    have c6 := HX3.c6
    have c7 := HX3.c7
    have e0 := blk_free HX3 0
    have e1 := blk_free HX3 1
    have e2 := blk_free HX3 2
    have e3 := blk_free HX3 3
    have e4 := blk_free HX3 4
    have e5 := blk_free HX3 5
    have e6 := blk_free HX3 6
    have e7 := blk_free HX3 7
    go_wp2_with fail
    have hfin : RqAt ((((((((w3.setCell ⟨w.heap.size, 0, none⟩ (.int .i64 0)).setCell ⟨w.heap.size, 1, none⟩ (.int .i64 0)).setCell ⟨w.heap.size, 2, none⟩ (.int .u64 0)).setCell ⟨w.heap.size, 3, none⟩ (.string ⟨#[]⟩)).setCell ⟨w.heap.size, 4, none⟩ (.int .i64 0)).setCell ⟨w.heap.size, 5, none⟩ (.int .i64 0)).setCell ⟨w.heap.size, 6, none⟩ (.int .i64 0)).setCell ⟨w.heap.size, 7, none⟩ (.slice none 0 0)) w.heap.size 0 0 0 ⟨#[]⟩ 0 0 0 none 0 0 := rq_all HX3
    have hbf : Below w.heap.size w ((((((((w3.setCell ⟨w.heap.size, 0, none⟩ (.int .i64 0)).setCell ⟨w.heap.size, 1, none⟩ (.int .i64 0)).setCell ⟨w.heap.size, 2, none⟩ (.int .u64 0)).setCell ⟨w.heap.size, 3, none⟩ (.string ⟨#[]⟩)).setCell ⟨w.heap.size, 4, none⟩ (.int .i64 0)).setCell ⟨w.heap.size, 5, none⟩ (.int .i64 0)).setCell ⟨w.heap.size, 6, none⟩ (.int .i64 0)).setCell ⟨w.heap.size, 7, none⟩ (.slice none 0 0)) := ((((((((HB3.setCell (p := ⟨w.heap.size, 0, none⟩) (Nat.le_refl _) _).setCell (p := ⟨w.heap.size, 1, none⟩) (Nat.le_refl _) _).setCell (p := ⟨w.heap.size, 2, none⟩) (Nat.le_refl _) _).setCell (p := ⟨w.heap.size, 3, none⟩) (Nat.le_refl _) _).setCell (p := ⟨w.heap.size, 4, none⟩) (Nat.le_refl _) _).setCell (p := ⟨w.heap.size, 5, none⟩) (Nat.le_refl _) _).setCell (p := ⟨w.heap.size, 6, none⟩) (Nat.le_refl _) _).setCell (p := ⟨w.heap.size, 7, none⟩) (Nat.le_refl _) _)
    clear c0 e0 c1 e1 c2 e2 c3 e3 c4 e4 c5 e5 c6 e6 c7 e7
    generalize ((((((((w3.setCell ⟨w.heap.size, 0, none⟩ (.int .i64 0)).setCell ⟨w.heap.size, 1, none⟩ (.int .i64 0)).setCell ⟨w.heap.size, 2, none⟩ (.int .u64 0)).setCell ⟨w.heap.size, 3, none⟩ (.string ⟨#[]⟩)).setCell ⟨w.heap.size, 4, none⟩ (.int .i64 0)).setCell ⟨w.heap.size, 5, none⟩ (.int .i64 0)).setCell ⟨w.heap.size, 6, none⟩ (.int .i64 0)).setCell ⟨w.heap.size, 7, none⟩ (.slice none 0 0)) = wf at *
    have c0 := hfin.c0
    have c1 := hfin.c1
    have c2 := hfin.c2
    have c3 := hfin.c3
    have c4 := hfin.c4
    have c5 := hfin.c5
    have c6 := hfin.c6
    have c7 := hfin.c7
    exact bodyPost_ret (v := .tuple #[rqV rq0 none 0, .bool false]) (by simp [results, Tryd.results34, go_sem, c0, c1, c2, c3, c4, c5, c6, c7, rqV, rq0]) rfl ⟨by rw [HREQ.out]; rfl, hbf⟩
  | some p =>
    obtain ⟨lv, ct⟩ := p
    rw [hp] at HREQ
    rw [show (⟨w1.toArray⟩ : ByteArray).data.toList = w1 from rfl, hp, show parseVal (some (lv, ct)) = .tuple #[.agg #[.int .i64 lv, .int .u64 ct], .bool true] from rfl] at HP
    go_enter Tryd.func34, Tryd.ntmps34
    go_upto_region 1 with fail
    rw [← hW1]
    clear hW1
    go_wp2_with fail
    refine HP.out.mono ?_
    rintro e w2 ⟨rfl, hb2⟩
    have HB2 := HB1.trans (hb2.mono HB1.size)
    have HX2 : RqAt w2 w.heap.size 0 0 0 ⟨#[]⟩ 0 0 0 none 0 0 := (hb2.block _ hlt1).trans HX
    obtain ⟨w3, hw3⟩ : ∃ W : World, W = w2.alloc (.cells #[.int .i64 (lv : Int), .int .u64 (ct : Int)] 25) := ⟨_, rfl⟩
    have HA : Below w2.heap.size w2 w3 := by rw [hw3]; exact alloc1 _ _
    have HL3 : w3.heap[w2.heap.size]? = some (.cells #[.int .i64 (lv : Int), .int .u64 (ct : Int)] 25 (0, 0)) := by rw [hw3]; exact Array.getElem?_push_size
    have HX3 := Lib.hid (show RqAt w3 w.heap.size 0 0 0 ⟨#[]⟩ 0 0 0 none 0 0 from (HA.block _ (blk_lt HX2)).trans HX2)
    have HB3 := Lib.hid (HB2.trans (HA.mono HB2.size))
    obtain ⟨lb, hlb⟩ : ∃ q, q = w2.heap.size := ⟨_, rfl⟩
    have hA13 : Below W1.heap.size W1 w3 := hb2.trans (HA.mono hb2.size)
    have hgW1 : gw < W1.heap.size := by omega
    have H0 := Lib.hid ((hA13.cell (p := ⟨gw, 0, none⟩) hgW1).trans h0)
    have HGL := Lib.hid (show gw < w3.heap.size from Nat.lt_of_lt_of_le hgW1 hA13.size)
    have HWT3 := Lib.hid (HWT.out.below hA13 hgW1)
    rw [← hlb] at HL3
    have HLL := Lib.hid (blk_lt HL3)
    have HA0 := Lib.hid (show w3.cell? ⟨lb, 0, none⟩ = some (.int .i64 (lv : Int)) from blk_cell HL3 0)
    have HA1 := Lib.hid (show w3.cell? ⟨lb, 1, none⟩ = some (.int .u64 (ct : Int)) from blk_cell HL3 1)
    have HK3 := Lib.hid (hK.later HB3.out)
    have VB : Hid (∀ W, Below w3.heap.size w3 W → Calls Tryd.prog 51 #[.string ⟨w0.toArray⟩] W fun e w' => e = .returned (.int .i64 (vrb w0)) ∧ Below W.heap.size W w') := Lib.hid (fun W h => verb_any ⟨w0.toArray⟩ W (HK3.out.later h))
    go_upto_region 6 with fail
    rw [← hw3, ← hlb]
    clear hw3 hlb HA HX2 HB2 HP h0 h1 hb2 HX HB1 HL3 hA13 HWT
    go_cut [6] (fun p wx => ∃ g : Nat, p = .pointer (some ⟨g, 0, none⟩) ∧ Hid (w3.heap.size ≤ g) ∧ Hid (RqAt wx g (vrb w0) lv ct ⟨#[]⟩ 0 0 0 none 0 0) ∧ Hid (Below w3.heap.size w3 wx))
    case first =>
      go_wp2_with fail
      refine wp_region_held_drew (S := (Keeps w3)) (by kernel_rfl) (keeps_drew _) (fun hK0 => ?_)
      refine wpAnyH_take (i := 0) (oi := { dst := some 24, op := Go.Op.move (Go.Operand.tmp 0), type := 60, pos := "wire.go:184", after := #[], guard := none }) (v := ?_) rfl (by kernel_rfl) (by kernel_rfl) (by kernel_rfl) (fun _ _ _ h => h) (Or.inl ⟨by rfl, ?_⟩) hK0 ?_
      rotate_left
      · (intro wz hSz; (try dsimp only at hSz); go_simp; try with_reducible rfl)
      simp only [Act.put, List.setIfInBounds_toArray, List.set_cons_zero, List.set_cons_succ]
      refine wpAnyH_take (i := 1) (oi := { dst := some 25, op := Go.Op.indexAddr 60 (Go.Operand.tmp 24) (Go.Operand.const (Go.Value.int Go.IntKind.i64 0)), type := 0, pos := "wire.go:184", after := #[{ on := 0, ground := Go.Ground.data }], guard := none }) (v := ?_) rfl (by kernel_rfl) (by kernel_rfl) (by kernel_rfl) (fun _ _ _ h => h) (Or.inl ⟨by rfl, ?_⟩) hK0 ?_
      rotate_left
      · (intro wz hSz; have hcz := True.intro; have hpos : (0 : Int) < (t.length : Int) + 2 := (by omega); go_simp; try with_reducible rfl)
      simp only [Act.put, List.setIfInBounds_toArray, List.set_cons_zero, List.set_cons_succ]
      refine wpAnyH_take (i := 2) (oi := { dst := some 26, op := Go.Op.load 9 (Go.Operand.tmp 25), type := 9, pos := "wire.go:184", after := #[{ on := 1, ground := Go.Ground.data }], guard := none }) (v := ?_) rfl (by kernel_rfl) (by kernel_rfl) (by kernel_rfl) (fun _ _ _ h => h) (Or.inl ⟨by rfl, ?_⟩) hK0 ?_
      rotate_left
      · (intro wz hSz; have hcz := True.intro; have hc0 := (Below.cell (p := ⟨gw, 0, none⟩) hSz HGL.out).trans H0.out; go_simp; try with_reducible rfl)
      simp only [Act.put, List.setIfInBounds_toArray, List.set_cons_zero, List.set_cons_succ]
      refine wpAnyH_take (i := 4) (oi := { dst := some 28, op := Go.Op.load 25 (Go.Operand.tmp 4), type := 25, pos := "wire.go:184", after := #[], guard := none }) (v := ?_) rfl (by kernel_rfl) (by kernel_rfl) (by kernel_rfl) (fun _ _ _ h => h) (Or.inl ⟨by rfl, ?_⟩) hK0 ?_
      rotate_left
      · (intro wz hSz; have hcz := True.intro; have hc0 := (Below.cell (p := ⟨lb, 0, none⟩) hSz HLL.out).trans HA0.out; have hc1 := (Below.cell (p := ⟨lb, 1, none⟩) hSz HLL.out).trans HA1.out; go_simp; try with_reducible rfl)
      simp only [Act.put, List.setIfInBounds_toArray, List.set_cons_zero, List.set_cons_succ]
      refine wpAnyH_ready (rs := [3, 6]) (by kernel_rfl) (by simp) ?_
      refine AllReadyH.cons (o := { dst := some 27, op := Go.Op.call { callee := Go.Callee.value (Go.Operand.func 51), args := #[Go.Operand.tmp 26], argTypes := #[9] }, type := 22, pos := "wire.go:184", after := #[{ on := 2, ground := Go.Ground.data }], guard := none }) rfl (fun K hK => ?_) (AllReadyH.cons (o := { dst := some 6, op := Go.Op.alloc 28, type := 0, pos := "wire.go:184", after := #[], guard := none }) rfl (fun K hK => ?_) AllReadyH.nil)
      · skip
        go_simp
        with_reducible refine (VB.out _ hK0.b).mono ?_
        rintro r wq1 ⟨rfl, hbq⟩
        go_wp2_with fail
        have hS := Keeps.trans hK0 hbq
        clear hbq
        refine hK.out _ _ hS (fun hK1 => ?_)
        clear hK K hS hK0
        refine wpAnyH_take (i := 5) (oi := { dst := some 29, op := Go.Op.build 28 #[(0, Go.Operand.tmp 27), (1, Go.Operand.tmp 28)], type := 28, pos := "wire.go:184", after := #[{ on := 3, ground := Go.Ground.data }, { on := 4, ground := Go.Ground.data }], guard := none }) (v := ?_) rfl (by kernel_rfl) (by kernel_rfl) (by kernel_rfl) (fun _ _ _ h => h) (Or.inl ⟨by rfl, ?_⟩) hK1 ?_
        rotate_left
        · (intro wz hSz; (try dsimp only at hSz); go_simp; try with_reducible rfl)
        simp only [Act.put, List.setIfInBounds_toArray, List.set_cons_zero, List.set_cons_succ]
        refine wpAnyH_ready (rs := [6]) (by kernel_rfl) (by simp) ?_
        refine AllReadyH.cons (o := { dst := some 6, op := Go.Op.alloc 28, type := 0, pos := "wire.go:184", after := #[], guard := none }) rfl (fun K hK => ?_) AllReadyH.nil
        go_simp
        obtain ⟨wq2, hwq⟩ : ∃ W : World, W = (wq1.alloc (.cells #[.int .i64 0, .int .i64 0, .int .u64 0, .string ⟨#[]⟩, .int .i64 0, .int .i64 0, .int .i64 0, .slice none 0 0] 28)) := ⟨_, rfl⟩
        rw [← hwq]
        have hbq : Below wq1.heap.size wq1 wq2 := by rw [hwq]; exact (alloc1 _ _)
        have hg : wq2.heap[wq1.heap.size]? = some (.cells #[.int .i64 0, .int .i64 0, .int .u64 0, .string ⟨#[]⟩, .int .i64 0, .int .i64 0, .int .i64 0, .slice none 0 0] 28 (0, 0)) := by rw [hwq]; exact heap_alloc_new wq1 _
        have hS : Keeps w3 wq2 := Keeps.trans hK1 hbq
        obtain ⟨g, hgn⟩ : ∃ g, g = wq1.heap.size := ⟨_, rfl⟩
        have HGE := Lib.hid (show w3.heap.size ≤ g by rw [hgn]; exact hK1.b.size)
        rw [← hgn] at hg ⊢
        have HG := Lib.hid hg
        clear hbq hg hgn hwq
        refine hK.out _ _ hS (fun hK2 => ?_)
        clear hK K hS hK1
        refine wpAnyH_ready (rs := [7]) (by kernel_rfl) (by simp) ?_
        refine AllReadyH.cons (o := { dst := none, op := Go.Op.store 28 (Go.Operand.tmp 6) (Go.Operand.tmp 29), type := 0, pos := "wire.go:184", after := #[{ on := 6, ground := Go.Ground.data }, { on := 5, ground := Go.Ground.data }, { on := 3, ground := Go.Ground.chain }, { on := 0, ground := Go.Ground.phase }, { on := 1, ground := Go.Ground.phase }, { on := 2, ground := Go.Ground.phase }, { on := 3, ground := Go.Ground.phase }, { on := 4, ground := Go.Ground.phase }, { on := 5, ground := Go.Ground.phase }, { on := 6, ground := Go.Ground.phase }], guard := none }) rfl (fun K hK => ?_) AllReadyH.nil
        have q0 := L.blk_cell HG.out 0
        have q1 := L.blk_cell HG.out 1
        have q2 := L.blk_cell HG.out 2
        have q3 := L.blk_cell HG.out 3
        have q4 := L.blk_cell HG.out 4
        have q5 := L.blk_cell HG.out 5
        have q6 := L.blk_cell HG.out 6
        have q7 := L.blk_cell HG.out 7
        have p0 := L.blk_free HG.out 0
        have p1 := L.blk_free HG.out 1
        have p2 := L.blk_free HG.out 2
        have p3 := L.blk_free HG.out 3
        have p4 := L.blk_free HG.out 4
        have p5 := L.blk_free HG.out 5
        have p6 := L.blk_free HG.out 6
        have p7 := L.blk_free HG.out 7
        go_simp
        obtain ⟨wq3, hwq⟩ : ∃ W : World, W = ((((((((wq2.setCell ⟨g, 0, none⟩ (.int .i64 (vrb w0))).setCell ⟨g, 1, none⟩ (.int .i64 lv)).setCell ⟨g, 2, none⟩ (.int .u64 (ct : Int))).setCell ⟨g, 3, none⟩ (.string ⟨#[]⟩)).setCell ⟨g, 4, none⟩ (.int .i64 0)).setCell ⟨g, 5, none⟩ (.int .i64 0)).setCell ⟨g, 6, none⟩ (.int .i64 0)).setCell ⟨g, 7, none⟩ (.slice none 0 0)) := ⟨_, rfl⟩
        rw [← hwq]
        have hS : Keeps w3 wq3 := by rw [hwq]; exact ((((((((hK2.setCell (p := ⟨g, 0, none⟩) HGE.out _).setCell (p := ⟨g, 1, none⟩) HGE.out _).setCell (p := ⟨g, 2, none⟩) HGE.out _).setCell (p := ⟨g, 3, none⟩) HGE.out _).setCell (p := ⟨g, 4, none⟩) HGE.out _).setCell (p := ⟨g, 5, none⟩) HGE.out _).setCell (p := ⟨g, 6, none⟩) HGE.out _).setCell (p := ⟨g, 7, none⟩) HGE.out _)
        have HGF := Lib.hid (show RqAt wq3 g (vrb w0) lv ct ⟨#[]⟩ 0 0 0 none 0 0 by rw [hwq]; exact rq_all HG.out)
        clear q0 p0 q1 p1 q2 p2 q3 p3 q4 p4 q5 p5 q6 p6 q7 p7 HG hwq
        refine hK.out _ _ hS (fun hK3 => ?_)
        clear hK K hS hK2
        refine wpAnyH_done (by kernel_rfl) ?_ _
        go_wp2_with fail
        go_meet
        case rel => exact ⟨g, rfl, HGE, HGF, Lib.hid hK3⟩
      · skip
        go_simp
        obtain ⟨wq1, hwq⟩ : ∃ W : World, W = (w3.alloc (.cells #[.int .i64 0, .int .i64 0, .int .u64 0, .string ⟨#[]⟩, .int .i64 0, .int .i64 0, .int .i64 0, .slice none 0 0] 28)).drew := ⟨_, rfl⟩
        rw [← hwq]
        have hbq : Below w3.heap.size w3 wq1 := by rw [hwq]; exact (alloc1 _ _).drew
        have hg : wq1.heap[w3.heap.size]? = some (.cells #[.int .i64 0, .int .i64 0, .int .u64 0, .string ⟨#[]⟩, .int .i64 0, .int .i64 0, .int .i64 0, .slice none 0 0] 28 (0, 0)) := by rw [hwq]; exact heap_alloc_new w3 _
        have hS : Keeps w3 wq1 := hbq
        obtain ⟨g, hgn⟩ : ∃ g, g = w3.heap.size := ⟨_, rfl⟩
        have HGE := Lib.hid (show w3.heap.size ≤ g by rw [hgn]; exact Nat.le_refl _)
        rw [← hgn] at hg ⊢
        have HG := Lib.hid hg
        clear hbq hg hgn hwq
        refine hK.out _ _ hS (fun hK1 => ?_)
        clear hK K hS hK0
        refine wpAnyH_ready (rs := [3]) (by kernel_rfl) (by simp) ?_
        refine AllReadyH.cons (o := { dst := some 27, op := Go.Op.call { callee := Go.Callee.value (Go.Operand.func 51), args := #[Go.Operand.tmp 26], argTypes := #[9] }, type := 22, pos := "wire.go:184", after := #[{ on := 2, ground := Go.Ground.data }], guard := none }) rfl (fun K hK => ?_) AllReadyH.nil
        go_simp
        with_reducible refine (VB.out _ hK1.b).mono ?_
        rintro r wq2 ⟨rfl, hbq⟩
        go_wp2_with fail
        have hS := Keeps.trans hK1 hbq
        replace HG := Lib.hid ((Below.block hbq _ (L.blk_lt HG.out)).trans HG.out)
        clear hbq
        refine hK.out _ _ hS (fun hK2 => ?_)
        clear hK K hS hK1
        refine wpAnyH_take (i := 5) (oi := { dst := some 29, op := Go.Op.build 28 #[(0, Go.Operand.tmp 27), (1, Go.Operand.tmp 28)], type := 28, pos := "wire.go:184", after := #[{ on := 3, ground := Go.Ground.data }, { on := 4, ground := Go.Ground.data }], guard := none }) (v := ?_) rfl (by kernel_rfl) (by kernel_rfl) (by kernel_rfl) (fun _ _ _ h => h) (Or.inl ⟨by rfl, ?_⟩) hK2 ?_
        rotate_left
        · (intro wz hSz; (try dsimp only at hSz); go_simp; try with_reducible rfl)
        simp only [Act.put, List.setIfInBounds_toArray, List.set_cons_zero, List.set_cons_succ]
        refine wpAnyH_ready (rs := [7]) (by kernel_rfl) (by simp) ?_
        refine AllReadyH.cons (o := { dst := none, op := Go.Op.store 28 (Go.Operand.tmp 6) (Go.Operand.tmp 29), type := 0, pos := "wire.go:184", after := #[{ on := 6, ground := Go.Ground.data }, { on := 5, ground := Go.Ground.data }, { on := 3, ground := Go.Ground.chain }, { on := 0, ground := Go.Ground.phase }, { on := 1, ground := Go.Ground.phase }, { on := 2, ground := Go.Ground.phase }, { on := 3, ground := Go.Ground.phase }, { on := 4, ground := Go.Ground.phase }, { on := 5, ground := Go.Ground.phase }, { on := 6, ground := Go.Ground.phase }], guard := none }) rfl (fun K hK => ?_) AllReadyH.nil
        have q0 := L.blk_cell HG.out 0
        have q1 := L.blk_cell HG.out 1
        have q2 := L.blk_cell HG.out 2
        have q3 := L.blk_cell HG.out 3
        have q4 := L.blk_cell HG.out 4
        have q5 := L.blk_cell HG.out 5
        have q6 := L.blk_cell HG.out 6
        have q7 := L.blk_cell HG.out 7
        have p0 := L.blk_free HG.out 0
        have p1 := L.blk_free HG.out 1
        have p2 := L.blk_free HG.out 2
        have p3 := L.blk_free HG.out 3
        have p4 := L.blk_free HG.out 4
        have p5 := L.blk_free HG.out 5
        have p6 := L.blk_free HG.out 6
        have p7 := L.blk_free HG.out 7
        go_simp
        obtain ⟨wq3, hwq⟩ : ∃ W : World, W = ((((((((wq2.setCell ⟨g, 0, none⟩ (.int .i64 (vrb w0))).setCell ⟨g, 1, none⟩ (.int .i64 lv)).setCell ⟨g, 2, none⟩ (.int .u64 (ct : Int))).setCell ⟨g, 3, none⟩ (.string ⟨#[]⟩)).setCell ⟨g, 4, none⟩ (.int .i64 0)).setCell ⟨g, 5, none⟩ (.int .i64 0)).setCell ⟨g, 6, none⟩ (.int .i64 0)).setCell ⟨g, 7, none⟩ (.slice none 0 0)) := ⟨_, rfl⟩
        rw [← hwq]
        have hS : Keeps w3 wq3 := by rw [hwq]; exact ((((((((hK2.setCell (p := ⟨g, 0, none⟩) HGE.out _).setCell (p := ⟨g, 1, none⟩) HGE.out _).setCell (p := ⟨g, 2, none⟩) HGE.out _).setCell (p := ⟨g, 3, none⟩) HGE.out _).setCell (p := ⟨g, 4, none⟩) HGE.out _).setCell (p := ⟨g, 5, none⟩) HGE.out _).setCell (p := ⟨g, 6, none⟩) HGE.out _).setCell (p := ⟨g, 7, none⟩) HGE.out _)
        have HGF := Lib.hid (show RqAt wq3 g (vrb w0) lv ct ⟨#[]⟩ 0 0 0 none 0 0 by rw [hwq]; exact rq_all HG.out)
        clear q0 p0 q1 p1 q2 p2 q3 p3 q4 p4 q5 p5 q6 p6 q7 p7 HG hwq
        refine hK.out _ _ hS (fun hK3 => ?_)
        clear hK K hS hK2
        refine wpAnyH_done (by kernel_rfl) ?_ _
        go_wp2_with fail
        go_meet
        case rel => exact ⟨g, rfl, HGE, HGF, Lib.hid hK3⟩

    case rest =>
    obtain ⟨gq, rfl, HGE, HGF, HBX⟩ := hcut
    generalize wc = w4 at *
    have hr3 : w.heap.size < w3.heap.size := blk_lt HX3.out
    have hgq : gq < w4.heap.size := blk_lt HGF.out
    have hne0 : w.heap.size ≠ gq := by have := HGE.out; omega
    have hleq : w.heap.size ≤ gq := by have := HGE.out; omega
    have hgwq : gq ≠ gw := by have := HGE.out; have := HGL.out; omega
    have HX4 := Lib.hid (show RqAt w4 w.heap.size 0 0 0 ⟨#[]⟩ 0 0 0 none 0 0 from (HBX.out.block _ hr3).trans HX3.out)
    have HB4 := Lib.hid (HB3.out.trans (HBX.out.mono HB3.out.size))
    have HWT4 := Lib.hid (HWT3.out.below HBX.out HGL.out)
    have hgw4 : gw < w4.heap.size := Nat.lt_of_lt_of_le HGL.out HBX.out.size
    have hr4 : w.heap.size < w4.heap.size := blk_lt HX4.out
    have HO := Lib.hid (of_any (vrb w0) w4 (HK3.out.later HBX.out))
    unfold str at HO
    have HSG := Lib.hid (sg_in (vrb w0))
    generalize vrb w0 = vb at *
    generalize hss' : sg vb = s at *
    clear hss'
    generalize (⟨(wrd vb).toArray⟩ : ByteArray) = wd at *
    have q0 := HGF.out.c0
    have F1 := field_kd1 wd ⟨s.toArray⟩
    have hdr : ∀ W, Sem.run Tryd.prog (Instr.sliceAt 60 (.slice (some ⟨gw, 0, none⟩) (t.length + 2) cap) (some (.int .i64 2)) none none) W = .ok (.slice (some ⟨gw, dropW 0 cap 2, none⟩) t.length (cap - 2)) W := fun W => drop_w gw 0 (t.length + 2) cap 2 (by omega) (by omega) W
    have HWD := Lib.hid (show WsAt w4 gw (dropW 0 cap 2) t from by
      intro j hj
      have hne : ¬ cap = 2 := by omega
      rw [dropW, if_neg hne]
      exact (congrArg (fun q => w4.cell? ⟨gw, q, none⟩) (show 0 + 2 + j = 2 + j by omega)).trans (HWT4.out j hj))
    generalize dropW 0 cap 2 = o0 at *
    clear HX3 HB3 HWT3 HWT4 HGL HLL HA0 HA1 HK3 VB H0 HBX hr3 hgW1 hlt1 hK hT
    go_wp2_with fail
    refine HO.out.mono ?_
    rintro e w5 ⟨rfl, hb5⟩
    have hsz := hb5.size
    have ha : Below w5.heap.size w5 (w5.alloc (.stringIter ⟨s.toArray⟩ 0)) := alloc1 _ _
    have hb6 : Below w4.heap.size w4 (w5.alloc (.stringIter ⟨s.toArray⟩ 0)) := hb5.trans (ha.mono hsz)
    have HX6 := Lib.hid (show RqAt (w5.alloc (.stringIter ⟨s.toArray⟩ 0)) w.heap.size 0 0 0 ⟨#[]⟩ 0 0 0 none 0 0 from (hb6.block _ hr4).trans HX4.out)
    have HG6 := Lib.hid (show RqAt (w5.alloc (.stringIter ⟨s.toArray⟩ 0)) gq vb lv ct ⟨#[]⟩ 0 0 0 none 0 0 from (hb6.block _ hgq).trans HGF.out)
    have HW6 := Lib.hid (show WsAt (w5.alloc (.stringIter ⟨s.toArray⟩ 0)) gw o0 t from HWD.out.below hb6 hgw4)
    have HI6 := Lib.hid (show (w5.alloc (.stringIter ⟨s.toArray⟩ 0)).heap[w5.heap.size]? = some (.stringIter ⟨s.toArray⟩ 0) from Array.getElem?_push_size)
    have HB6 := Lib.hid (show Below w.heap.size w (w5.alloc (.stringIter ⟨s.toArray⟩ 0)) from HB4.out.trans (hb6.mono HB4.out.size))
    have hr5 : w.heap.size < w5.heap.size := by omega
    have hq5 : gq < w5.heap.size := by omega
    have hw5 : gw < w5.heap.size := by omega
    clear hb5 hsz ha hb6 HX4 HB4 HWD HO HGF HGE q0 hr4 hgq hgw4
    go_wp2_with fail
    clear F1 hdr
    have hcap2 : t.length ≤ cap - 2 := by omega
    go_loopg [7] s.length (fun n i wr => ∃ (j o c' : Nat) (fi : List UInt8) (a b c : Int) (ws : List (List UInt8)), j ≤ s.length ∧ s.length - j ≤ n ∧ i = .slice (some ⟨gw, o, none⟩) ws.length c' ∧ ws.length ≤ c' ∧ Hid (∀ x ∈ ws, x.length ≤ 4194304) ∧
      Hid (res = fil ⟨vb, lv, ct, fi, a, b, c, []⟩ (s.drop j) ws) ∧ Hid (WsAt wr gw o ws) ∧ Hid (RqAt wr gq vb lv ct ⟨fi.toArray⟩ a b c none 0 0) ∧ Hid (RqAt wr w.heap.size 0 0 0 ⟨#[]⟩ 0 0 0 none 0 0) ∧ Hid (wr.heap[w5.heap.size]? = some (.stringIter ⟨s.toArray⟩ j)) ∧ Hid (Below w.heap.size w wr))
    case atStart => exact ⟨0, o0, cap - 2, [], 0, 0, 0, t, Nat.zero_le _, by omega, rfl, hcap2, HLT, HREQ, HW6, HG6, HX6, HI6, HB6⟩
    case round =>
      clear HW6 HG6 HX6 HI6 HB6 HLT HREQ hcap2
      obtain ⟨j, o, c', fi, a, b, c, ws, hj, hn, rfl, hwc, HLT, HR, HW, HG, HX, HI, HB⟩ := hrel
      by_cases hlt : j < s.length
      · have hs : j < (⟨s.toArray⟩ : ByteArray).size := by simpa [ByteArray.size] using hlt
        have ec : (⟨s.toArray⟩ : ByteArray)[j]'hs = s[j] := rfl
        have hin := HSG.out s[j] (List.getElem_mem hlt)
        have HS := HR.out.trans (fil_drop _ s j hlt ws)
        have hasc : ((⟨s.toArray⟩ : ByteArray)[j]'hs).toNat < 128 := by rw [ec]; rcases hin with h | h | h | h | h <;> rw [h] <;> decide
        have HN := fun ty => Lib.run_next_ascii_at (P := Tryd.prog) wr w5.heap.size ⟨s.toArray⟩ j ty HI.out hs hasc
        rw [ec] at HN
        have hbi : Below w5.heap.size wr (wr.iterAt w5.heap.size ⟨s.toArray⟩ (j + 1)) := Lib.below_iterAt (Below.refl w5.heap.size wr) (Nat.le_refl _) _ _
        have HXn := Lib.hid (show RqAt (wr.iterAt w5.heap.size ⟨s.toArray⟩ (j + 1)) w.heap.size 0 0 0 ⟨#[]⟩ 0 0 0 none 0 0 from (hbi.block _ hr5).trans HX.out)
        have HGn := Lib.hid (show RqAt (wr.iterAt w5.heap.size ⟨s.toArray⟩ (j + 1)) gq vb lv ct ⟨fi.toArray⟩ a b c none 0 0 from (hbi.block _ hq5).trans HG.out)
        have HWn := Lib.hid (HW.out.below hbi hw5)
        have HIn := Lib.hid (Lib.iterAt_heap wr _ _ _ (j + 1) HI.out)
        have HBn := Lib.hid (Lib.below_iterAt HB.out (k := w5.heap.size) (by omega) ⟨s.toArray⟩ (j + 1))
        clear hasc ec hbi
        generalize s[j] = ch at *
        generalize wr.iterAt w5.heap.size ⟨s.toArray⟩ (j + 1) = wn at *
        clear HX HI HB HR HG HW
        rcases hin with rfl | rfl | rfl | rfl | rfl
        · cases ws with
          | nil =>
            have HS2 := Lib.hid (show res = none from HS)
            clear HS
            have c0 := HXn.out.c0
            have c1 := HXn.out.c1
            have c2 := HXn.out.c2
            have c3 := HXn.out.c3
            have c4 := HXn.out.c4
            have c5 := HXn.out.c5
            have c6 := HXn.out.c6
            have c7 := HXn.out.c7
            have e0 := blk_free HXn.out 0
            have e1 := blk_free HXn.out 1
            have e2 := blk_free HXn.out 2
            have e3 := blk_free HXn.out 3
            have e4 := blk_free HXn.out 4
            have e5 := blk_free HXn.out 5
            have e6 := blk_free HXn.out 6
            have e7 := blk_free HXn.out 7
            go_wp2_with fail
            have hfin : RqAt ((((((((wn.setCell ⟨w.heap.size, 0, none⟩ (.int .i64 0)).setCell ⟨w.heap.size, 1, none⟩ (.int .i64 0)).setCell ⟨w.heap.size, 2, none⟩ (.int .u64 0)).setCell ⟨w.heap.size, 3, none⟩ (.string ⟨#[]⟩)).setCell ⟨w.heap.size, 4, none⟩ (.int .i64 0)).setCell ⟨w.heap.size, 5, none⟩ (.int .i64 0)).setCell ⟨w.heap.size, 6, none⟩ (.int .i64 0)).setCell ⟨w.heap.size, 7, none⟩ (.slice none 0 0)) w.heap.size 0 0 0 ⟨#[]⟩ 0 0 0 none 0 0 := rq_all HXn.out
            have hbf : Below w.heap.size w ((((((((wn.setCell ⟨w.heap.size, 0, none⟩ (.int .i64 0)).setCell ⟨w.heap.size, 1, none⟩ (.int .i64 0)).setCell ⟨w.heap.size, 2, none⟩ (.int .u64 0)).setCell ⟨w.heap.size, 3, none⟩ (.string ⟨#[]⟩)).setCell ⟨w.heap.size, 4, none⟩ (.int .i64 0)).setCell ⟨w.heap.size, 5, none⟩ (.int .i64 0)).setCell ⟨w.heap.size, 6, none⟩ (.int .i64 0)).setCell ⟨w.heap.size, 7, none⟩ (.slice none 0 0)) := ((((((((HBn.out.setCell (p := ⟨w.heap.size, 0, none⟩) (Nat.le_refl _) _).setCell (p := ⟨w.heap.size, 1, none⟩) (Nat.le_refl _) _).setCell (p := ⟨w.heap.size, 2, none⟩) (Nat.le_refl _) _).setCell (p := ⟨w.heap.size, 3, none⟩) (Nat.le_refl _) _).setCell (p := ⟨w.heap.size, 4, none⟩) (Nat.le_refl _) _).setCell (p := ⟨w.heap.size, 5, none⟩) (Nat.le_refl _) _).setCell (p := ⟨w.heap.size, 6, none⟩) (Nat.le_refl _) _).setCell (p := ⟨w.heap.size, 7, none⟩) (Nat.le_refl _) _)
            clear c0 e0 c1 e1 c2 e2 c3 e3 c4 e4 c5 e5 c6 e6 c7 e7
            generalize ((((((((wn.setCell ⟨w.heap.size, 0, none⟩ (.int .i64 0)).setCell ⟨w.heap.size, 1, none⟩ (.int .i64 0)).setCell ⟨w.heap.size, 2, none⟩ (.int .u64 0)).setCell ⟨w.heap.size, 3, none⟩ (.string ⟨#[]⟩)).setCell ⟨w.heap.size, 4, none⟩ (.int .i64 0)).setCell ⟨w.heap.size, 5, none⟩ (.int .i64 0)).setCell ⟨w.heap.size, 6, none⟩ (.int .i64 0)).setCell ⟨w.heap.size, 7, none⟩ (.slice none 0 0)) = wf at *
            have c0 := hfin.c0
            have c1 := hfin.c1
            have c2 := hfin.c2
            have c3 := hfin.c3
            have c4 := hfin.c4
            have c5 := hfin.c5
            have c6 := hfin.c6
            have c7 := hfin.c7
            exact bodyPost_ret (v := .tuple #[rqV rq0 none 0, .bool false]) (by simp [results, Tryd.results34, go_sem, c0, c1, c2, c3, c4, c5, c6, c7, rqV, rq0]) rfl ⟨by rw [HS2.out]; rfl, hbf⟩
          | cons x ws' =>
            have HS2 := Lib.hid (show res = fil ⟨vb, lv, ct, x, a, b, c, []⟩ (s.drop (j + 1)) ws' from HS)
            clear HS
            have hx0 := HWn.out 0 (by simp)
            have hx0 : wn.cell? ⟨gw, o, none⟩ = some (.string ⟨x.toArray⟩) := hx0
            have HF := Lib.hid (fill_f gq ⟨x.toArray⟩ ⟨fi.toArray⟩ wn HGn.out.c3 (blk_free HGn.out 3))
            have hdr : ∀ W, Sem.run Tryd.prog (Instr.sliceAt 60 (.slice (some ⟨gw, o, none⟩) (ws'.length + 1) c') (some (.int .i64 1)) none none) W = .ok (.slice (some ⟨gw, dropW o c' 1, none⟩) ws'.length (c' - 1)) W := fun W => drop_w gw o (ws'.length + 1) c' 1 (by omega) (by simpa using hwc) W
            have hwd := ws_drop HWn.out hwc
            have hwc2 : ws'.length ≤ c' - 1 := by simp at hwc; omega
            generalize dropW o c' 1 = o1 at *
            rw [List.length_cons]
            go_wp2_with fail
            refine HF.out.mono ?_
            rintro e w9 ⟨rfl, hw9⟩
            have HB9 := Lib.hid (show Below w.heap.size w w9 by rw [hw9]; exact HBn.out.setCell hleq _)
            have HG9 := Lib.hid (show RqAt w9 gq vb lv ct ⟨x.toArray⟩ a b c none 0 0 by rw [hw9]; exact HGn.out.s3 ⟨x.toArray⟩)
            have HX9 := Lib.hid (show RqAt w9 w.heap.size 0 0 0 ⟨#[]⟩ 0 0 0 none 0 0 by rw [hw9]; exact (blk_far (by omega) _).trans HXn.out)
            have HI9 := Lib.hid (show w9.heap[w5.heap.size]? = some (.stringIter ⟨s.toArray⟩ (j + 1)) by rw [hw9]; exact (blk_far (by omega) _).trans HIn.out)
            have HW9 := Lib.hid (show WsAt w9 gw o1 ws' by
              rw [hw9]
              intro i hi
              rw [World.cell?_setCell_far _ _ _ _ (by exact hgwq)]
              exact hwd i hi)
            clear hw9 hwd HF HGn HXn HIn HBn HWn hx0
            go_wp2_with fail
            go_roundg (s.length - (j + 1))
            case measure => omega
            case rel => exact ⟨j + 1, o1, c' - 1, x, a, b, c, ws', by omega, Nat.le_refl _, rfl, hwc2, Lib.hid (fun y hy => HLT.out y (by simp [hy])), HS2, HW9, HG9, HX9, HI9, HB9⟩
        · have HS2 := Lib.hid (show res = fil ⟨vb, lv, ct, fi, a, b, c, []⟩ (s.drop (j + 1)) ws by rw [HS, if_pos rfl])
          clear HS
          go_wp2_with fail
          go_roundg (s.length - (j + 1))
          case measure => omega
          case rel => exact ⟨j + 1, o, c', fi, a, b, c, ws, by omega, Nat.le_refl _, rfl, hwc, HLT, HS2, HWn, HGn, HXn, HIn, HBn⟩
        · cases ws with
          | nil =>
            have HS2 := Lib.hid (show res = none from HS)
            clear HS
            have c0 := HXn.out.c0
            have c1 := HXn.out.c1
            have c2 := HXn.out.c2
            have c3 := HXn.out.c3
            have c4 := HXn.out.c4
            have c5 := HXn.out.c5
            have c6 := HXn.out.c6
            have c7 := HXn.out.c7
            have e0 := blk_free HXn.out 0
            have e1 := blk_free HXn.out 1
            have e2 := blk_free HXn.out 2
            have e3 := blk_free HXn.out 3
            have e4 := blk_free HXn.out 4
            have e5 := blk_free HXn.out 5
            have e6 := blk_free HXn.out 6
            have e7 := blk_free HXn.out 7
            go_wp2_with fail
            have hfin : RqAt ((((((((wn.setCell ⟨w.heap.size, 0, none⟩ (.int .i64 0)).setCell ⟨w.heap.size, 1, none⟩ (.int .i64 0)).setCell ⟨w.heap.size, 2, none⟩ (.int .u64 0)).setCell ⟨w.heap.size, 3, none⟩ (.string ⟨#[]⟩)).setCell ⟨w.heap.size, 4, none⟩ (.int .i64 0)).setCell ⟨w.heap.size, 5, none⟩ (.int .i64 0)).setCell ⟨w.heap.size, 6, none⟩ (.int .i64 0)).setCell ⟨w.heap.size, 7, none⟩ (.slice none 0 0)) w.heap.size 0 0 0 ⟨#[]⟩ 0 0 0 none 0 0 := rq_all HXn.out
            have hbf : Below w.heap.size w ((((((((wn.setCell ⟨w.heap.size, 0, none⟩ (.int .i64 0)).setCell ⟨w.heap.size, 1, none⟩ (.int .i64 0)).setCell ⟨w.heap.size, 2, none⟩ (.int .u64 0)).setCell ⟨w.heap.size, 3, none⟩ (.string ⟨#[]⟩)).setCell ⟨w.heap.size, 4, none⟩ (.int .i64 0)).setCell ⟨w.heap.size, 5, none⟩ (.int .i64 0)).setCell ⟨w.heap.size, 6, none⟩ (.int .i64 0)).setCell ⟨w.heap.size, 7, none⟩ (.slice none 0 0)) := ((((((((HBn.out.setCell (p := ⟨w.heap.size, 0, none⟩) (Nat.le_refl _) _).setCell (p := ⟨w.heap.size, 1, none⟩) (Nat.le_refl _) _).setCell (p := ⟨w.heap.size, 2, none⟩) (Nat.le_refl _) _).setCell (p := ⟨w.heap.size, 3, none⟩) (Nat.le_refl _) _).setCell (p := ⟨w.heap.size, 4, none⟩) (Nat.le_refl _) _).setCell (p := ⟨w.heap.size, 5, none⟩) (Nat.le_refl _) _).setCell (p := ⟨w.heap.size, 6, none⟩) (Nat.le_refl _) _).setCell (p := ⟨w.heap.size, 7, none⟩) (Nat.le_refl _) _)
            clear c0 e0 c1 e1 c2 e2 c3 e3 c4 e4 c5 e5 c6 e6 c7 e7
            generalize ((((((((wn.setCell ⟨w.heap.size, 0, none⟩ (.int .i64 0)).setCell ⟨w.heap.size, 1, none⟩ (.int .i64 0)).setCell ⟨w.heap.size, 2, none⟩ (.int .u64 0)).setCell ⟨w.heap.size, 3, none⟩ (.string ⟨#[]⟩)).setCell ⟨w.heap.size, 4, none⟩ (.int .i64 0)).setCell ⟨w.heap.size, 5, none⟩ (.int .i64 0)).setCell ⟨w.heap.size, 6, none⟩ (.int .i64 0)).setCell ⟨w.heap.size, 7, none⟩ (.slice none 0 0)) = wf at *
            have c0 := hfin.c0
            have c1 := hfin.c1
            have c2 := hfin.c2
            have c3 := hfin.c3
            have c4 := hfin.c4
            have c5 := hfin.c5
            have c6 := hfin.c6
            have c7 := hfin.c7
            exact bodyPost_ret (v := .tuple #[rqV rq0 none 0, .bool false]) (by simp [results, Tryd.results34, go_sem, c0, c1, c2, c3, c4, c5, c6, c7, rqV, rq0]) rfl ⟨by rw [HS2.out]; rfl, hbf⟩
          | cons x ws' =>
            have hx0 : wn.cell? ⟨gw, o, none⟩ = some (.string ⟨x.toArray⟩) := HWn.out 0 (by simp)
            have hxl := HLT.out x (by simp)
            have HNM := number_any ⟨x.toArray⟩ wn (by simp only [maxLen, ByteArray.size, List.size_toArray]; omega)
            rw [show (⟨x.toArray⟩ : ByteArray).data.toList = x from rfl] at HNM
            cases hnum : P.number x with
            | none =>
              have HS2 := Lib.hid (show res = none by rw [HS, if_neg (by decide)]; simp only [put, hnum]; rfl)
              rw [hnum, numVal_none] at HNM
              have HF := Lib.hid (fill_n gq 4 65 (by decide) ⟨x.toArray⟩ 0 a false wn HGn.out.c4 (blk_free HGn.out 4) (Lib.hid (number_a gq wn)) (Lib.hid HNM))
              clear HS HNM
              rw [List.length_cons]
              go_wp2_with fail
              refine HF.out.mono ?_
              rintro e w9 ⟨rfl, hw9⟩
              have HB9 := Lib.hid (show Below w.heap.size w w9 by rw [hw9]; exact HBn.out.setCell hleq _)
              have HX9 := Lib.hid (show RqAt w9 w.heap.size 0 0 0 ⟨#[]⟩ 0 0 0 none 0 0 by rw [hw9]; exact (blk_far (by omega) _).trans HXn.out)
              clear hw9 HF HGn HXn HIn HBn HWn hx0
              have c0 := HX9.out.c0
              have c1 := HX9.out.c1
              have c2 := HX9.out.c2
              have c3 := HX9.out.c3
              have c4 := HX9.out.c4
              have c5 := HX9.out.c5
              have c6 := HX9.out.c6
              have c7 := HX9.out.c7
              have e0 := blk_free HX9.out 0
              have e1 := blk_free HX9.out 1
              have e2 := blk_free HX9.out 2
              have e3 := blk_free HX9.out 3
              have e4 := blk_free HX9.out 4
              have e5 := blk_free HX9.out 5
              have e6 := blk_free HX9.out 6
              have e7 := blk_free HX9.out 7
              go_wp2_with fail
              have hfin : RqAt ((((((((w9.setCell ⟨w.heap.size, 0, none⟩ (.int .i64 0)).setCell ⟨w.heap.size, 1, none⟩ (.int .i64 0)).setCell ⟨w.heap.size, 2, none⟩ (.int .u64 0)).setCell ⟨w.heap.size, 3, none⟩ (.string ⟨#[]⟩)).setCell ⟨w.heap.size, 4, none⟩ (.int .i64 0)).setCell ⟨w.heap.size, 5, none⟩ (.int .i64 0)).setCell ⟨w.heap.size, 6, none⟩ (.int .i64 0)).setCell ⟨w.heap.size, 7, none⟩ (.slice none 0 0)) w.heap.size 0 0 0 ⟨#[]⟩ 0 0 0 none 0 0 := rq_all HX9.out
              have hbf : Below w.heap.size w ((((((((w9.setCell ⟨w.heap.size, 0, none⟩ (.int .i64 0)).setCell ⟨w.heap.size, 1, none⟩ (.int .i64 0)).setCell ⟨w.heap.size, 2, none⟩ (.int .u64 0)).setCell ⟨w.heap.size, 3, none⟩ (.string ⟨#[]⟩)).setCell ⟨w.heap.size, 4, none⟩ (.int .i64 0)).setCell ⟨w.heap.size, 5, none⟩ (.int .i64 0)).setCell ⟨w.heap.size, 6, none⟩ (.int .i64 0)).setCell ⟨w.heap.size, 7, none⟩ (.slice none 0 0)) := ((((((((HB9.out.setCell (p := ⟨w.heap.size, 0, none⟩) (Nat.le_refl _) _).setCell (p := ⟨w.heap.size, 1, none⟩) (Nat.le_refl _) _).setCell (p := ⟨w.heap.size, 2, none⟩) (Nat.le_refl _) _).setCell (p := ⟨w.heap.size, 3, none⟩) (Nat.le_refl _) _).setCell (p := ⟨w.heap.size, 4, none⟩) (Nat.le_refl _) _).setCell (p := ⟨w.heap.size, 5, none⟩) (Nat.le_refl _) _).setCell (p := ⟨w.heap.size, 6, none⟩) (Nat.le_refl _) _).setCell (p := ⟨w.heap.size, 7, none⟩) (Nat.le_refl _) _)
              clear c0 e0 c1 e1 c2 e2 c3 e3 c4 e4 c5 e5 c6 e6 c7 e7
              generalize ((((((((w9.setCell ⟨w.heap.size, 0, none⟩ (.int .i64 0)).setCell ⟨w.heap.size, 1, none⟩ (.int .i64 0)).setCell ⟨w.heap.size, 2, none⟩ (.int .u64 0)).setCell ⟨w.heap.size, 3, none⟩ (.string ⟨#[]⟩)).setCell ⟨w.heap.size, 4, none⟩ (.int .i64 0)).setCell ⟨w.heap.size, 5, none⟩ (.int .i64 0)).setCell ⟨w.heap.size, 6, none⟩ (.int .i64 0)).setCell ⟨w.heap.size, 7, none⟩ (.slice none 0 0)) = wf at *
              have c0 := hfin.c0
              have c1 := hfin.c1
              have c2 := hfin.c2
              have c3 := hfin.c3
              have c4 := hfin.c4
              have c5 := hfin.c5
              have c6 := hfin.c6
              have c7 := hfin.c7
              exact bodyPost_ret (v := .tuple #[rqV rq0 none 0, .bool false]) (by simp [results, Tryd.results34, go_sem, c0, c1, c2, c3, c4, c5, c6, c7, rqV, rq0]) rfl ⟨by rw [HS2.out]; rfl, hbf⟩
            | some n =>
              have HS2 := Lib.hid (show res = fil ⟨vb, lv, ct, fi, (n : Int), b, c, []⟩ (s.drop (j + 1)) ws' by rw [HS, if_neg (by decide)]; simp only [put, hnum]; rfl)
              rw [hnum, numVal_some] at HNM
              have HF := Lib.hid (fill_n gq 4 65 (by decide) ⟨x.toArray⟩ n a true wn HGn.out.c4 (blk_free HGn.out 4) (Lib.hid (number_a gq wn)) (Lib.hid HNM))
              clear HS HNM
              have hdr : ∀ W, Sem.run Tryd.prog (Instr.sliceAt 60 (.slice (some ⟨gw, o, none⟩) (ws'.length + 1) c') (some (.int .i64 1)) none none) W = .ok (.slice (some ⟨gw, dropW o c' 1, none⟩) ws'.length (c' - 1)) W := fun W => drop_w gw o (ws'.length + 1) c' 1 (by omega) (by simpa using hwc) W
              have hwd := ws_drop HWn.out hwc
              have hwc2 : ws'.length ≤ c' - 1 := by simp at hwc; omega
              generalize dropW o c' 1 = o1 at *
              rw [List.length_cons]
              go_wp2_with fail
              refine HF.out.mono ?_
              rintro e w9 ⟨rfl, hw9⟩
              have HB9 := Lib.hid (show Below w.heap.size w w9 by rw [hw9]; exact HBn.out.setCell hleq _)
              have HG9 := Lib.hid (show RqAt w9 gq vb lv ct ⟨fi.toArray⟩ (n : Int) b c none 0 0 by rw [hw9]; exact HGn.out.s4 _)
              have HX9 := Lib.hid (show RqAt w9 w.heap.size 0 0 0 ⟨#[]⟩ 0 0 0 none 0 0 by rw [hw9]; exact (blk_far (by omega) _).trans HXn.out)
              have HI9 := Lib.hid (show w9.heap[w5.heap.size]? = some (.stringIter ⟨s.toArray⟩ (j + 1)) by rw [hw9]; exact (blk_far (by omega) _).trans HIn.out)
              have HW9 := Lib.hid (show WsAt w9 gw o1 ws' by
                rw [hw9]
                intro i hi
                rw [World.cell?_setCell_far _ _ _ _ (by exact hgwq)]
                exact hwd i hi)
              clear hw9 hwd HF HGn HXn HIn HBn HWn hx0
              go_wp2_with fail
              go_roundg (s.length - (j + 1))
              case measure => omega
              case rel => exact ⟨j + 1, o1, c' - 1, fi, (n : Int), b, c, ws', by omega, Nat.le_refl _, rfl, hwc2, Lib.hid (fun y hy => HLT.out y (by simp [hy])), HS2, HW9, HG9, HX9, HI9, HB9⟩
        · cases ws with
          | nil =>
            have HS2 := Lib.hid (show res = none from HS)
            clear HS
            have c0 := HXn.out.c0
            have c1 := HXn.out.c1
            have c2 := HXn.out.c2
            have c3 := HXn.out.c3
            have c4 := HXn.out.c4
            have c5 := HXn.out.c5
            have c6 := HXn.out.c6
            have c7 := HXn.out.c7
            have e0 := blk_free HXn.out 0
            have e1 := blk_free HXn.out 1
            have e2 := blk_free HXn.out 2
            have e3 := blk_free HXn.out 3
            have e4 := blk_free HXn.out 4
            have e5 := blk_free HXn.out 5
            have e6 := blk_free HXn.out 6
            have e7 := blk_free HXn.out 7
            go_wp2_with fail
            have hfin : RqAt ((((((((wn.setCell ⟨w.heap.size, 0, none⟩ (.int .i64 0)).setCell ⟨w.heap.size, 1, none⟩ (.int .i64 0)).setCell ⟨w.heap.size, 2, none⟩ (.int .u64 0)).setCell ⟨w.heap.size, 3, none⟩ (.string ⟨#[]⟩)).setCell ⟨w.heap.size, 4, none⟩ (.int .i64 0)).setCell ⟨w.heap.size, 5, none⟩ (.int .i64 0)).setCell ⟨w.heap.size, 6, none⟩ (.int .i64 0)).setCell ⟨w.heap.size, 7, none⟩ (.slice none 0 0)) w.heap.size 0 0 0 ⟨#[]⟩ 0 0 0 none 0 0 := rq_all HXn.out
            have hbf : Below w.heap.size w ((((((((wn.setCell ⟨w.heap.size, 0, none⟩ (.int .i64 0)).setCell ⟨w.heap.size, 1, none⟩ (.int .i64 0)).setCell ⟨w.heap.size, 2, none⟩ (.int .u64 0)).setCell ⟨w.heap.size, 3, none⟩ (.string ⟨#[]⟩)).setCell ⟨w.heap.size, 4, none⟩ (.int .i64 0)).setCell ⟨w.heap.size, 5, none⟩ (.int .i64 0)).setCell ⟨w.heap.size, 6, none⟩ (.int .i64 0)).setCell ⟨w.heap.size, 7, none⟩ (.slice none 0 0)) := ((((((((HBn.out.setCell (p := ⟨w.heap.size, 0, none⟩) (Nat.le_refl _) _).setCell (p := ⟨w.heap.size, 1, none⟩) (Nat.le_refl _) _).setCell (p := ⟨w.heap.size, 2, none⟩) (Nat.le_refl _) _).setCell (p := ⟨w.heap.size, 3, none⟩) (Nat.le_refl _) _).setCell (p := ⟨w.heap.size, 4, none⟩) (Nat.le_refl _) _).setCell (p := ⟨w.heap.size, 5, none⟩) (Nat.le_refl _) _).setCell (p := ⟨w.heap.size, 6, none⟩) (Nat.le_refl _) _).setCell (p := ⟨w.heap.size, 7, none⟩) (Nat.le_refl _) _)
            clear c0 e0 c1 e1 c2 e2 c3 e3 c4 e4 c5 e5 c6 e6 c7 e7
            generalize ((((((((wn.setCell ⟨w.heap.size, 0, none⟩ (.int .i64 0)).setCell ⟨w.heap.size, 1, none⟩ (.int .i64 0)).setCell ⟨w.heap.size, 2, none⟩ (.int .u64 0)).setCell ⟨w.heap.size, 3, none⟩ (.string ⟨#[]⟩)).setCell ⟨w.heap.size, 4, none⟩ (.int .i64 0)).setCell ⟨w.heap.size, 5, none⟩ (.int .i64 0)).setCell ⟨w.heap.size, 6, none⟩ (.int .i64 0)).setCell ⟨w.heap.size, 7, none⟩ (.slice none 0 0)) = wf at *
            have c0 := hfin.c0
            have c1 := hfin.c1
            have c2 := hfin.c2
            have c3 := hfin.c3
            have c4 := hfin.c4
            have c5 := hfin.c5
            have c6 := hfin.c6
            have c7 := hfin.c7
            exact bodyPost_ret (v := .tuple #[rqV rq0 none 0, .bool false]) (by simp [results, Tryd.results34, go_sem, c0, c1, c2, c3, c4, c5, c6, c7, rqV, rq0]) rfl ⟨by rw [HS2.out]; rfl, hbf⟩
          | cons x ws' =>
            have hx0 : wn.cell? ⟨gw, o, none⟩ = some (.string ⟨x.toArray⟩) := HWn.out 0 (by simp)
            have hxl := HLT.out x (by simp)
            have HNM := number_any ⟨x.toArray⟩ wn (by simp only [maxLen, ByteArray.size, List.size_toArray]; omega)
            rw [show (⟨x.toArray⟩ : ByteArray).data.toList = x from rfl] at HNM
            cases hnum : P.number x with
            | none =>
              have HS2 := Lib.hid (show res = none by rw [HS, if_neg (by decide)]; simp only [put, hnum]; rfl)
              rw [hnum, numVal_none] at HNM
              have HF := Lib.hid (fill_n gq 5 66 (by decide) ⟨x.toArray⟩ 0 b false wn HGn.out.c5 (blk_free HGn.out 5) (Lib.hid (number_b gq wn)) (Lib.hid HNM))
              clear HS HNM
              rw [List.length_cons]
              go_wp2_with fail
              refine HF.out.mono ?_
              rintro e w9 ⟨rfl, hw9⟩
              have HB9 := Lib.hid (show Below w.heap.size w w9 by rw [hw9]; exact HBn.out.setCell hleq _)
              have HX9 := Lib.hid (show RqAt w9 w.heap.size 0 0 0 ⟨#[]⟩ 0 0 0 none 0 0 by rw [hw9]; exact (blk_far (by omega) _).trans HXn.out)
              clear hw9 HF HGn HXn HIn HBn HWn hx0
              have c0 := HX9.out.c0
              have c1 := HX9.out.c1
              have c2 := HX9.out.c2
              have c3 := HX9.out.c3
              have c4 := HX9.out.c4
              have c5 := HX9.out.c5
              have c6 := HX9.out.c6
              have c7 := HX9.out.c7
              have e0 := blk_free HX9.out 0
              have e1 := blk_free HX9.out 1
              have e2 := blk_free HX9.out 2
              have e3 := blk_free HX9.out 3
              have e4 := blk_free HX9.out 4
              have e5 := blk_free HX9.out 5
              have e6 := blk_free HX9.out 6
              have e7 := blk_free HX9.out 7
              go_wp2_with fail
              have hfin : RqAt ((((((((w9.setCell ⟨w.heap.size, 0, none⟩ (.int .i64 0)).setCell ⟨w.heap.size, 1, none⟩ (.int .i64 0)).setCell ⟨w.heap.size, 2, none⟩ (.int .u64 0)).setCell ⟨w.heap.size, 3, none⟩ (.string ⟨#[]⟩)).setCell ⟨w.heap.size, 4, none⟩ (.int .i64 0)).setCell ⟨w.heap.size, 5, none⟩ (.int .i64 0)).setCell ⟨w.heap.size, 6, none⟩ (.int .i64 0)).setCell ⟨w.heap.size, 7, none⟩ (.slice none 0 0)) w.heap.size 0 0 0 ⟨#[]⟩ 0 0 0 none 0 0 := rq_all HX9.out
              have hbf : Below w.heap.size w ((((((((w9.setCell ⟨w.heap.size, 0, none⟩ (.int .i64 0)).setCell ⟨w.heap.size, 1, none⟩ (.int .i64 0)).setCell ⟨w.heap.size, 2, none⟩ (.int .u64 0)).setCell ⟨w.heap.size, 3, none⟩ (.string ⟨#[]⟩)).setCell ⟨w.heap.size, 4, none⟩ (.int .i64 0)).setCell ⟨w.heap.size, 5, none⟩ (.int .i64 0)).setCell ⟨w.heap.size, 6, none⟩ (.int .i64 0)).setCell ⟨w.heap.size, 7, none⟩ (.slice none 0 0)) := ((((((((HB9.out.setCell (p := ⟨w.heap.size, 0, none⟩) (Nat.le_refl _) _).setCell (p := ⟨w.heap.size, 1, none⟩) (Nat.le_refl _) _).setCell (p := ⟨w.heap.size, 2, none⟩) (Nat.le_refl _) _).setCell (p := ⟨w.heap.size, 3, none⟩) (Nat.le_refl _) _).setCell (p := ⟨w.heap.size, 4, none⟩) (Nat.le_refl _) _).setCell (p := ⟨w.heap.size, 5, none⟩) (Nat.le_refl _) _).setCell (p := ⟨w.heap.size, 6, none⟩) (Nat.le_refl _) _).setCell (p := ⟨w.heap.size, 7, none⟩) (Nat.le_refl _) _)
              clear c0 e0 c1 e1 c2 e2 c3 e3 c4 e4 c5 e5 c6 e6 c7 e7
              generalize ((((((((w9.setCell ⟨w.heap.size, 0, none⟩ (.int .i64 0)).setCell ⟨w.heap.size, 1, none⟩ (.int .i64 0)).setCell ⟨w.heap.size, 2, none⟩ (.int .u64 0)).setCell ⟨w.heap.size, 3, none⟩ (.string ⟨#[]⟩)).setCell ⟨w.heap.size, 4, none⟩ (.int .i64 0)).setCell ⟨w.heap.size, 5, none⟩ (.int .i64 0)).setCell ⟨w.heap.size, 6, none⟩ (.int .i64 0)).setCell ⟨w.heap.size, 7, none⟩ (.slice none 0 0)) = wf at *
              have c0 := hfin.c0
              have c1 := hfin.c1
              have c2 := hfin.c2
              have c3 := hfin.c3
              have c4 := hfin.c4
              have c5 := hfin.c5
              have c6 := hfin.c6
              have c7 := hfin.c7
              exact bodyPost_ret (v := .tuple #[rqV rq0 none 0, .bool false]) (by simp [results, Tryd.results34, go_sem, c0, c1, c2, c3, c4, c5, c6, c7, rqV, rq0]) rfl ⟨by rw [HS2.out]; rfl, hbf⟩
            | some n =>
              have HS2 := Lib.hid (show res = fil ⟨vb, lv, ct, fi, a, (n : Int), c, []⟩ (s.drop (j + 1)) ws' by rw [HS, if_neg (by decide)]; simp only [put, hnum]; rfl)
              rw [hnum, numVal_some] at HNM
              have HF := Lib.hid (fill_n gq 5 66 (by decide) ⟨x.toArray⟩ n b true wn HGn.out.c5 (blk_free HGn.out 5) (Lib.hid (number_b gq wn)) (Lib.hid HNM))
              clear HS HNM
              have hdr : ∀ W, Sem.run Tryd.prog (Instr.sliceAt 60 (.slice (some ⟨gw, o, none⟩) (ws'.length + 1) c') (some (.int .i64 1)) none none) W = .ok (.slice (some ⟨gw, dropW o c' 1, none⟩) ws'.length (c' - 1)) W := fun W => drop_w gw o (ws'.length + 1) c' 1 (by omega) (by simpa using hwc) W
              have hwd := ws_drop HWn.out hwc
              have hwc2 : ws'.length ≤ c' - 1 := by simp at hwc; omega
              generalize dropW o c' 1 = o1 at *
              rw [List.length_cons]
              go_wp2_with fail
              refine HF.out.mono ?_
              rintro e w9 ⟨rfl, hw9⟩
              have HB9 := Lib.hid (show Below w.heap.size w w9 by rw [hw9]; exact HBn.out.setCell hleq _)
              have HG9 := Lib.hid (show RqAt w9 gq vb lv ct ⟨fi.toArray⟩ a (n : Int) c none 0 0 by rw [hw9]; exact HGn.out.s5 _)
              have HX9 := Lib.hid (show RqAt w9 w.heap.size 0 0 0 ⟨#[]⟩ 0 0 0 none 0 0 by rw [hw9]; exact (blk_far (by omega) _).trans HXn.out)
              have HI9 := Lib.hid (show w9.heap[w5.heap.size]? = some (.stringIter ⟨s.toArray⟩ (j + 1)) by rw [hw9]; exact (blk_far (by omega) _).trans HIn.out)
              have HW9 := Lib.hid (show WsAt w9 gw o1 ws' by
                rw [hw9]
                intro i hi
                rw [World.cell?_setCell_far _ _ _ _ (by exact hgwq)]
                exact hwd i hi)
              clear hw9 hwd HF HGn HXn HIn HBn HWn hx0
              go_wp2_with fail
              go_roundg (s.length - (j + 1))
              case measure => omega
              case rel => exact ⟨j + 1, o1, c' - 1, fi, a, (n : Int), c, ws', by omega, Nat.le_refl _, rfl, hwc2, Lib.hid (fun y hy => HLT.out y (by simp [hy])), HS2, HW9, HG9, HX9, HI9, HB9⟩
        · cases ws with
          | nil =>
            have HS2 := Lib.hid (show res = none from HS)
            clear HS
            have c0 := HXn.out.c0
            have c1 := HXn.out.c1
            have c2 := HXn.out.c2
            have c3 := HXn.out.c3
            have c4 := HXn.out.c4
            have c5 := HXn.out.c5
            have c6 := HXn.out.c6
            have c7 := HXn.out.c7
            have e0 := blk_free HXn.out 0
            have e1 := blk_free HXn.out 1
            have e2 := blk_free HXn.out 2
            have e3 := blk_free HXn.out 3
            have e4 := blk_free HXn.out 4
            have e5 := blk_free HXn.out 5
            have e6 := blk_free HXn.out 6
            have e7 := blk_free HXn.out 7
            go_wp2_with fail
            have hfin : RqAt ((((((((wn.setCell ⟨w.heap.size, 0, none⟩ (.int .i64 0)).setCell ⟨w.heap.size, 1, none⟩ (.int .i64 0)).setCell ⟨w.heap.size, 2, none⟩ (.int .u64 0)).setCell ⟨w.heap.size, 3, none⟩ (.string ⟨#[]⟩)).setCell ⟨w.heap.size, 4, none⟩ (.int .i64 0)).setCell ⟨w.heap.size, 5, none⟩ (.int .i64 0)).setCell ⟨w.heap.size, 6, none⟩ (.int .i64 0)).setCell ⟨w.heap.size, 7, none⟩ (.slice none 0 0)) w.heap.size 0 0 0 ⟨#[]⟩ 0 0 0 none 0 0 := rq_all HXn.out
            have hbf : Below w.heap.size w ((((((((wn.setCell ⟨w.heap.size, 0, none⟩ (.int .i64 0)).setCell ⟨w.heap.size, 1, none⟩ (.int .i64 0)).setCell ⟨w.heap.size, 2, none⟩ (.int .u64 0)).setCell ⟨w.heap.size, 3, none⟩ (.string ⟨#[]⟩)).setCell ⟨w.heap.size, 4, none⟩ (.int .i64 0)).setCell ⟨w.heap.size, 5, none⟩ (.int .i64 0)).setCell ⟨w.heap.size, 6, none⟩ (.int .i64 0)).setCell ⟨w.heap.size, 7, none⟩ (.slice none 0 0)) := ((((((((HBn.out.setCell (p := ⟨w.heap.size, 0, none⟩) (Nat.le_refl _) _).setCell (p := ⟨w.heap.size, 1, none⟩) (Nat.le_refl _) _).setCell (p := ⟨w.heap.size, 2, none⟩) (Nat.le_refl _) _).setCell (p := ⟨w.heap.size, 3, none⟩) (Nat.le_refl _) _).setCell (p := ⟨w.heap.size, 4, none⟩) (Nat.le_refl _) _).setCell (p := ⟨w.heap.size, 5, none⟩) (Nat.le_refl _) _).setCell (p := ⟨w.heap.size, 6, none⟩) (Nat.le_refl _) _).setCell (p := ⟨w.heap.size, 7, none⟩) (Nat.le_refl _) _)
            clear c0 e0 c1 e1 c2 e2 c3 e3 c4 e4 c5 e5 c6 e6 c7 e7
            generalize ((((((((wn.setCell ⟨w.heap.size, 0, none⟩ (.int .i64 0)).setCell ⟨w.heap.size, 1, none⟩ (.int .i64 0)).setCell ⟨w.heap.size, 2, none⟩ (.int .u64 0)).setCell ⟨w.heap.size, 3, none⟩ (.string ⟨#[]⟩)).setCell ⟨w.heap.size, 4, none⟩ (.int .i64 0)).setCell ⟨w.heap.size, 5, none⟩ (.int .i64 0)).setCell ⟨w.heap.size, 6, none⟩ (.int .i64 0)).setCell ⟨w.heap.size, 7, none⟩ (.slice none 0 0)) = wf at *
            have c0 := hfin.c0
            have c1 := hfin.c1
            have c2 := hfin.c2
            have c3 := hfin.c3
            have c4 := hfin.c4
            have c5 := hfin.c5
            have c6 := hfin.c6
            have c7 := hfin.c7
            exact bodyPost_ret (v := .tuple #[rqV rq0 none 0, .bool false]) (by simp [results, Tryd.results34, go_sem, c0, c1, c2, c3, c4, c5, c6, c7, rqV, rq0]) rfl ⟨by rw [HS2.out]; rfl, hbf⟩
          | cons x ws' =>
            have hx0 : wn.cell? ⟨gw, o, none⟩ = some (.string ⟨x.toArray⟩) := HWn.out 0 (by simp)
            have hxl := HLT.out x (by simp)
            have HNM := number_any ⟨x.toArray⟩ wn (by simp only [maxLen, ByteArray.size, List.size_toArray]; omega)
            rw [show (⟨x.toArray⟩ : ByteArray).data.toList = x from rfl] at HNM
            cases hnum : P.number x with
            | none =>
              have HS2 := Lib.hid (show res = none by rw [HS, if_neg (by decide)]; simp only [put, hnum]; rfl)
              rw [hnum, numVal_none] at HNM
              have HF := Lib.hid (fill_n gq 6 67 (by decide) ⟨x.toArray⟩ 0 c false wn HGn.out.c6 (blk_free HGn.out 6) (Lib.hid (number_c gq wn)) (Lib.hid HNM))
              clear HS HNM
              rw [List.length_cons]
              go_wp2_with fail
              refine HF.out.mono ?_
              rintro e w9 ⟨rfl, hw9⟩
              have HB9 := Lib.hid (show Below w.heap.size w w9 by rw [hw9]; exact HBn.out.setCell hleq _)
              have HX9 := Lib.hid (show RqAt w9 w.heap.size 0 0 0 ⟨#[]⟩ 0 0 0 none 0 0 by rw [hw9]; exact (blk_far (by omega) _).trans HXn.out)
              clear hw9 HF HGn HXn HIn HBn HWn hx0
              have c0 := HX9.out.c0
              have c1 := HX9.out.c1
              have c2 := HX9.out.c2
              have c3 := HX9.out.c3
              have c4 := HX9.out.c4
              have c5 := HX9.out.c5
              have c6 := HX9.out.c6
              have c7 := HX9.out.c7
              have e0 := blk_free HX9.out 0
              have e1 := blk_free HX9.out 1
              have e2 := blk_free HX9.out 2
              have e3 := blk_free HX9.out 3
              have e4 := blk_free HX9.out 4
              have e5 := blk_free HX9.out 5
              have e6 := blk_free HX9.out 6
              have e7 := blk_free HX9.out 7
              go_wp2_with fail
              have hfin : RqAt ((((((((w9.setCell ⟨w.heap.size, 0, none⟩ (.int .i64 0)).setCell ⟨w.heap.size, 1, none⟩ (.int .i64 0)).setCell ⟨w.heap.size, 2, none⟩ (.int .u64 0)).setCell ⟨w.heap.size, 3, none⟩ (.string ⟨#[]⟩)).setCell ⟨w.heap.size, 4, none⟩ (.int .i64 0)).setCell ⟨w.heap.size, 5, none⟩ (.int .i64 0)).setCell ⟨w.heap.size, 6, none⟩ (.int .i64 0)).setCell ⟨w.heap.size, 7, none⟩ (.slice none 0 0)) w.heap.size 0 0 0 ⟨#[]⟩ 0 0 0 none 0 0 := rq_all HX9.out
              have hbf : Below w.heap.size w ((((((((w9.setCell ⟨w.heap.size, 0, none⟩ (.int .i64 0)).setCell ⟨w.heap.size, 1, none⟩ (.int .i64 0)).setCell ⟨w.heap.size, 2, none⟩ (.int .u64 0)).setCell ⟨w.heap.size, 3, none⟩ (.string ⟨#[]⟩)).setCell ⟨w.heap.size, 4, none⟩ (.int .i64 0)).setCell ⟨w.heap.size, 5, none⟩ (.int .i64 0)).setCell ⟨w.heap.size, 6, none⟩ (.int .i64 0)).setCell ⟨w.heap.size, 7, none⟩ (.slice none 0 0)) := ((((((((HB9.out.setCell (p := ⟨w.heap.size, 0, none⟩) (Nat.le_refl _) _).setCell (p := ⟨w.heap.size, 1, none⟩) (Nat.le_refl _) _).setCell (p := ⟨w.heap.size, 2, none⟩) (Nat.le_refl _) _).setCell (p := ⟨w.heap.size, 3, none⟩) (Nat.le_refl _) _).setCell (p := ⟨w.heap.size, 4, none⟩) (Nat.le_refl _) _).setCell (p := ⟨w.heap.size, 5, none⟩) (Nat.le_refl _) _).setCell (p := ⟨w.heap.size, 6, none⟩) (Nat.le_refl _) _).setCell (p := ⟨w.heap.size, 7, none⟩) (Nat.le_refl _) _)
              clear c0 e0 c1 e1 c2 e2 c3 e3 c4 e4 c5 e5 c6 e6 c7 e7
              generalize ((((((((w9.setCell ⟨w.heap.size, 0, none⟩ (.int .i64 0)).setCell ⟨w.heap.size, 1, none⟩ (.int .i64 0)).setCell ⟨w.heap.size, 2, none⟩ (.int .u64 0)).setCell ⟨w.heap.size, 3, none⟩ (.string ⟨#[]⟩)).setCell ⟨w.heap.size, 4, none⟩ (.int .i64 0)).setCell ⟨w.heap.size, 5, none⟩ (.int .i64 0)).setCell ⟨w.heap.size, 6, none⟩ (.int .i64 0)).setCell ⟨w.heap.size, 7, none⟩ (.slice none 0 0)) = wf at *
              have c0 := hfin.c0
              have c1 := hfin.c1
              have c2 := hfin.c2
              have c3 := hfin.c3
              have c4 := hfin.c4
              have c5 := hfin.c5
              have c6 := hfin.c6
              have c7 := hfin.c7
              exact bodyPost_ret (v := .tuple #[rqV rq0 none 0, .bool false]) (by simp [results, Tryd.results34, go_sem, c0, c1, c2, c3, c4, c5, c6, c7, rqV, rq0]) rfl ⟨by rw [HS2.out]; rfl, hbf⟩
            | some n =>
              have HS2 := Lib.hid (show res = fil ⟨vb, lv, ct, fi, a, b, (n : Int), []⟩ (s.drop (j + 1)) ws' by rw [HS, if_neg (by decide)]; simp only [put, hnum]; rfl)
              rw [hnum, numVal_some] at HNM
              have HF := Lib.hid (fill_n gq 6 67 (by decide) ⟨x.toArray⟩ n c true wn HGn.out.c6 (blk_free HGn.out 6) (Lib.hid (number_c gq wn)) (Lib.hid HNM))
              clear HS HNM
              have hdr : ∀ W, Sem.run Tryd.prog (Instr.sliceAt 60 (.slice (some ⟨gw, o, none⟩) (ws'.length + 1) c') (some (.int .i64 1)) none none) W = .ok (.slice (some ⟨gw, dropW o c' 1, none⟩) ws'.length (c' - 1)) W := fun W => drop_w gw o (ws'.length + 1) c' 1 (by omega) (by simpa using hwc) W
              have hwd := ws_drop HWn.out hwc
              have hwc2 : ws'.length ≤ c' - 1 := by simp at hwc; omega
              generalize dropW o c' 1 = o1 at *
              rw [List.length_cons]
              go_wp2_with fail
              refine HF.out.mono ?_
              rintro e w9 ⟨rfl, hw9⟩
              have HB9 := Lib.hid (show Below w.heap.size w w9 by rw [hw9]; exact HBn.out.setCell hleq _)
              have HG9 := Lib.hid (show RqAt w9 gq vb lv ct ⟨fi.toArray⟩ a b (n : Int) none 0 0 by rw [hw9]; exact HGn.out.s6 _)
              have HX9 := Lib.hid (show RqAt w9 w.heap.size 0 0 0 ⟨#[]⟩ 0 0 0 none 0 0 by rw [hw9]; exact (blk_far (by omega) _).trans HXn.out)
              have HI9 := Lib.hid (show w9.heap[w5.heap.size]? = some (.stringIter ⟨s.toArray⟩ (j + 1)) by rw [hw9]; exact (blk_far (by omega) _).trans HIn.out)
              have HW9 := Lib.hid (show WsAt w9 gw o1 ws' by
                rw [hw9]
                intro i hi
                rw [World.cell?_setCell_far _ _ _ _ (by exact hgwq)]
                exact hwd i hi)
              clear hw9 hwd HF HGn HXn HIn HBn HWn hx0
              go_wp2_with fail
              go_roundg (s.length - (j + 1))
              case measure => omega
              case rel => exact ⟨j + 1, o1, c' - 1, fi, a, b, (n : Int), ws', by omega, Nat.le_refl _, rfl, hwc2, Lib.hid (fun y hy => HLT.out y (by simp [hy])), HS2, HW9, HG9, HX9, HI9, HB9⟩
      · obtain rfl : j = s.length := by omega
        have HN := fun ty => Lib.run_next_end_at (P := Tryd.prog) wr w5.heap.size ⟨s.toArray⟩ s.length ty HI.out (by simp [ByteArray.size])
        have HS := HR.out.trans (fil_end _ s ws)
        cases ws with
        | cons x ws' =>
          have HS2 := Lib.hid (show res = none from HS)
          clear HS
          have c0 := HX.out.c0
          have c1 := HX.out.c1
          have c2 := HX.out.c2
          have c3 := HX.out.c3
          have c4 := HX.out.c4
          have c5 := HX.out.c5
          have c6 := HX.out.c6
          have c7 := HX.out.c7
          have e0 := blk_free HX.out 0
          have e1 := blk_free HX.out 1
          have e2 := blk_free HX.out 2
          have e3 := blk_free HX.out 3
          have e4 := blk_free HX.out 4
          have e5 := blk_free HX.out 5
          have e6 := blk_free HX.out 6
          have e7 := blk_free HX.out 7
          go_wp2_with fail
          have hfin : RqAt ((((((((wr.setCell ⟨w.heap.size, 0, none⟩ (.int .i64 0)).setCell ⟨w.heap.size, 1, none⟩ (.int .i64 0)).setCell ⟨w.heap.size, 2, none⟩ (.int .u64 0)).setCell ⟨w.heap.size, 3, none⟩ (.string ⟨#[]⟩)).setCell ⟨w.heap.size, 4, none⟩ (.int .i64 0)).setCell ⟨w.heap.size, 5, none⟩ (.int .i64 0)).setCell ⟨w.heap.size, 6, none⟩ (.int .i64 0)).setCell ⟨w.heap.size, 7, none⟩ (.slice none 0 0)) w.heap.size 0 0 0 ⟨#[]⟩ 0 0 0 none 0 0 := rq_all HX.out
          have hbf : Below w.heap.size w ((((((((wr.setCell ⟨w.heap.size, 0, none⟩ (.int .i64 0)).setCell ⟨w.heap.size, 1, none⟩ (.int .i64 0)).setCell ⟨w.heap.size, 2, none⟩ (.int .u64 0)).setCell ⟨w.heap.size, 3, none⟩ (.string ⟨#[]⟩)).setCell ⟨w.heap.size, 4, none⟩ (.int .i64 0)).setCell ⟨w.heap.size, 5, none⟩ (.int .i64 0)).setCell ⟨w.heap.size, 6, none⟩ (.int .i64 0)).setCell ⟨w.heap.size, 7, none⟩ (.slice none 0 0)) := ((((((((HB.out.setCell (p := ⟨w.heap.size, 0, none⟩) (Nat.le_refl _) _).setCell (p := ⟨w.heap.size, 1, none⟩) (Nat.le_refl _) _).setCell (p := ⟨w.heap.size, 2, none⟩) (Nat.le_refl _) _).setCell (p := ⟨w.heap.size, 3, none⟩) (Nat.le_refl _) _).setCell (p := ⟨w.heap.size, 4, none⟩) (Nat.le_refl _) _).setCell (p := ⟨w.heap.size, 5, none⟩) (Nat.le_refl _) _).setCell (p := ⟨w.heap.size, 6, none⟩) (Nat.le_refl _) _).setCell (p := ⟨w.heap.size, 7, none⟩) (Nat.le_refl _) _)
          clear c0 e0 c1 e1 c2 e2 c3 e3 c4 e4 c5 e5 c6 e6 c7 e7
          generalize ((((((((wr.setCell ⟨w.heap.size, 0, none⟩ (.int .i64 0)).setCell ⟨w.heap.size, 1, none⟩ (.int .i64 0)).setCell ⟨w.heap.size, 2, none⟩ (.int .u64 0)).setCell ⟨w.heap.size, 3, none⟩ (.string ⟨#[]⟩)).setCell ⟨w.heap.size, 4, none⟩ (.int .i64 0)).setCell ⟨w.heap.size, 5, none⟩ (.int .i64 0)).setCell ⟨w.heap.size, 6, none⟩ (.int .i64 0)).setCell ⟨w.heap.size, 7, none⟩ (.slice none 0 0)) = wf at *
          have c0 := hfin.c0
          have c1 := hfin.c1
          have c2 := hfin.c2
          have c3 := hfin.c3
          have c4 := hfin.c4
          have c5 := hfin.c5
          have c6 := hfin.c6
          have c7 := hfin.c7
          exact bodyPost_ret (v := .tuple #[rqV rq0 none 0, .bool false]) (by simp [results, Tryd.results34, go_sem, c0, c1, c2, c3, c4, c5, c6, c7, rqV, rq0]) rfl ⟨by rw [HS2.out]; rfl, hbf⟩
        | nil =>
          have HS2 := Lib.hid (show res = some ⟨vb, lv, ct, fi, a, b, c, []⟩ from HS)
          clear HS
          have c0 := HX.out.c0
          have c1 := HX.out.c1
          have c2 := HX.out.c2
          have c3 := HX.out.c3
          have c4 := HX.out.c4
          have c5 := HX.out.c5
          have c6 := HX.out.c6
          have c7 := HX.out.c7
          have e0 := blk_free HX.out 0
          have e1 := blk_free HX.out 1
          have e2 := blk_free HX.out 2
          have e3 := blk_free HX.out 3
          have e4 := blk_free HX.out 4
          have e5 := blk_free HX.out 5
          have e6 := blk_free HX.out 6
          have e7 := blk_free HX.out 7
          have d0 := HG.out.c0
          have d1 := HG.out.c1
          have d2 := HG.out.c2
          have d3 := HG.out.c3
          have d4 := HG.out.c4
          have d5 := HG.out.c5
          have d6 := HG.out.c6
          have d7 := HG.out.c7
          go_wp2_with fail
          have hfin : RqAt ((((((((wr.setCell ⟨w.heap.size, 0, none⟩ (.int .i64 vb)).setCell ⟨w.heap.size, 1, none⟩ (.int .i64 (lv : Int))).setCell ⟨w.heap.size, 2, none⟩ (.int .u64 (ct : Int))).setCell ⟨w.heap.size, 3, none⟩ (.string ⟨fi.toArray⟩)).setCell ⟨w.heap.size, 4, none⟩ (.int .i64 a)).setCell ⟨w.heap.size, 5, none⟩ (.int .i64 b)).setCell ⟨w.heap.size, 6, none⟩ (.int .i64 c)).setCell ⟨w.heap.size, 7, none⟩ (.slice none 0 0)) w.heap.size vb lv ct ⟨fi.toArray⟩ a b c none 0 0 := rq_all HX.out
          have hbf : Below w.heap.size w ((((((((wr.setCell ⟨w.heap.size, 0, none⟩ (.int .i64 vb)).setCell ⟨w.heap.size, 1, none⟩ (.int .i64 (lv : Int))).setCell ⟨w.heap.size, 2, none⟩ (.int .u64 (ct : Int))).setCell ⟨w.heap.size, 3, none⟩ (.string ⟨fi.toArray⟩)).setCell ⟨w.heap.size, 4, none⟩ (.int .i64 a)).setCell ⟨w.heap.size, 5, none⟩ (.int .i64 b)).setCell ⟨w.heap.size, 6, none⟩ (.int .i64 c)).setCell ⟨w.heap.size, 7, none⟩ (.slice none 0 0)) := ((((((((HB.out.setCell (p := ⟨w.heap.size, 0, none⟩) (Nat.le_refl _) _).setCell (p := ⟨w.heap.size, 1, none⟩) (Nat.le_refl _) _).setCell (p := ⟨w.heap.size, 2, none⟩) (Nat.le_refl _) _).setCell (p := ⟨w.heap.size, 3, none⟩) (Nat.le_refl _) _).setCell (p := ⟨w.heap.size, 4, none⟩) (Nat.le_refl _) _).setCell (p := ⟨w.heap.size, 5, none⟩) (Nat.le_refl _) _).setCell (p := ⟨w.heap.size, 6, none⟩) (Nat.le_refl _) _).setCell (p := ⟨w.heap.size, 7, none⟩) (Nat.le_refl _) _)
          clear c0 e0 d0 c1 e1 d1 c2 e2 d2 c3 e3 d3 c4 e4 d4 c5 e5 d5 c6 e6 d6 c7 e7 d7
          generalize ((((((((wr.setCell ⟨w.heap.size, 0, none⟩ (.int .i64 vb)).setCell ⟨w.heap.size, 1, none⟩ (.int .i64 (lv : Int))).setCell ⟨w.heap.size, 2, none⟩ (.int .u64 (ct : Int))).setCell ⟨w.heap.size, 3, none⟩ (.string ⟨fi.toArray⟩)).setCell ⟨w.heap.size, 4, none⟩ (.int .i64 a)).setCell ⟨w.heap.size, 5, none⟩ (.int .i64 b)).setCell ⟨w.heap.size, 6, none⟩ (.int .i64 c)).setCell ⟨w.heap.size, 7, none⟩ (.slice none 0 0)) = wf at *
          have c0 := hfin.c0
          have c1 := hfin.c1
          have c2 := hfin.c2
          have c3 := hfin.c3
          have c4 := hfin.c4
          have c5 := hfin.c5
          have c6 := hfin.c6
          have c7 := hfin.c7
          exact bodyPost_ret (v := .tuple #[rqV ⟨vb, lv, ct, fi, a, b, c, []⟩ none 0, .bool true]) (by simp [results, Tryd.results34, go_sem, c0, c1, c2, c3, c4, c5, c6, c7, rqV]) rfl ⟨by rw [HS2.out]; rfl, hbf⟩
end Go.Proofs.YtddakaeacgojmaaDoor.Wr
