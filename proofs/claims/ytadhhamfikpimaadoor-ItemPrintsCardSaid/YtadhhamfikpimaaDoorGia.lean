/-
  Plain functions for items: what a marked text says, line by line; which items may be; the lines of items. Nothing of the program stands in it; no condition.
  Plain facts on items: the lines that are printed are read as the items; what was read may be printed, but for its floor's label and its length.
-/
import Derived.Test.YtadhhamfikpimaaDoorGc
import Derived.Test.YtadhhamfikpimaaDoorGd
import Derived.Test.YtadhhamfikpimaaDoorGi
import Derived.Test.YtadhhamfikpimaaDoorGg
import Derived.Test.YtadhhamfikpimaaDoorGb
namespace Go.Proofs.YtadhhamfikpimaaDoor.I
set_option linter.unusedVariables false
set_option linter.unusedSimpArgs false

/-- A label; an item. -/
abbrev Lb := Int × Nat
structure It where
  id : Int
  lv : Int
  ct : Nat
  an : Bool
  tx : List UInt8
  ba : Bool
deriving DecidableEq
def It.lb (x : It) : Lb := (x.lv, x.ct)
/-- A marked text while its lines are read: the labels of the open regions, the innermost first and the floor's last; the items; the last line that was content. -/
structure Ps where
  op : List Lb
  its : List It
  con : Nat
deriving DecidableEq

def kEnd : List UInt8 := [64, 64, 32, 101, 110, 100]
def kAnchor : List UInt8 := [64, 64, 32, 97, 110, 99, 104, 111, 114]
def kBare : List UInt8 := [64, 64, 32, 98, 97, 114, 101]
def kBegin : List UInt8 := [64, 64, 32, 98, 101, 103, 105, 110, 32]
def kEsc : List UInt8 := [64, 64, 64]
def kMark : List UInt8 := [64, 64, 32]
def kSign : List UInt8 := [64, 64]

def Ps.top (s : Ps) : Lb := s.op.headD (0, 0)
def add (s : Ps) (an : Bool) (t : List UInt8) (b : Bool) : Ps ⊕ Nat :=
  if s.its.length < 400 then .inl ⟨s.op, s.its ++ [⟨(s.its.length : Int) + 1, s.top.1, s.top.2, an, t, b⟩], s.con⟩ else .inr 4
def content (s : Ps) (k : Nat) (t : List UInt8) (b : Bool) : Ps ⊕ Nat :=
  if t.length ≤ 200 then (match add s false t b with | .inl u => .inl ⟨u.op, u.its, k⟩ | .inr e => .inr e) else .inr 4
def bare (s : Ps) (k : Nat) : Ps ⊕ Nat :=
  if 0 < s.con ∧ s.con + 1 = k then
    (match s.its.getLast? with
    | some x => if x.tx = [] then .inr 3 else .inl ⟨s.op, s.its.dropLast ++ [⟨x.id, x.lv, x.ct, x.an, x.tx, true⟩], s.con⟩
    | none => .inr 3)
  else .inr 3
def begins (n0 n1 : Int) (s : Ps) (w : List UInt8) : Ps ⊕ Nat :=
  match L.parse w with
  | none => .inr 3
  | some a => if O.fitsB n0 n1 a.1 a.2 && L.belowB s.top.1 s.top.2 a.1 a.2 then (if s.op.length ≤ 16 then .inl ⟨((a.1 : Int), a.2) :: s.op, s.its, s.con⟩ else .inr 4) else .inr 5
def mark (n0 n1 : Int) (k : Nat) (s : Ps) (t : List UInt8) : Ps ⊕ Nat :=
  if t = kEnd then (if 1 < s.op.length then .inl ⟨s.op.tail, s.its, s.con⟩ else .inr 3)
  else if t = kAnchor then add s true [] false
  else if t = kBare then bare s k
  else if kBegin <+: t then begins n0 n1 s (t.drop 9) else .inr 3
/-- What a line says. -/
def take (n0 n1 : Int) (k : Nat) (s : Ps) (x : List UInt8 × Bool) : Ps ⊕ Nat :=
  if kEsc <+: x.1 then content s k (x.1.drop 1) x.2
  else if kMark <+: x.1 then mark n0 n1 k s x.1
  else if kSign <+: x.1 then .inr 3
  else content s k x.1 x.2
/-- The lines of a text, from the i-th on: what they come to, or the number of the first that can't be, and why. -/
def takeAll (n0 n1 : Int) : Ps → Nat → List (List UInt8 × Bool) → Ps ⊕ (Nat × Nat)
  | s, _, [] => .inl s
  | s, i, x :: r => match take n0 n1 (i + 1) s x with
    | .inl t => takeAll n0 n1 t (i + 1) r
    | .inr e => .inr (i + 1, e)
def Ps.start (fl : Lb) : Ps := ⟨[fl], [], 0⟩
def readAll (n0 n1 : Int) (fl : Lb) (ls : List (List UInt8 × Bool)) : List It ⊕ (Nat × Nat) := match takeAll n0 n1 (Ps.start fl) 0 ls with
  | .inl s => if s.op.length = 1 then .inl s.its else .inr (0, 3)
  | .inr x => .inr x
def parse (n0 n1 : Int) (fl : Lb) (b : List UInt8) : List It ⊕ (Nat × Nat) := if 32768 < b.length then .inr (0, 4) else readAll n0 n1 fl (P.lines [] b)

/-- Which items may be. -/
def limitsB (l : List It) : Bool := decide (l.length ≤ 1073741824) && l.all fun x => decide (x.tx.length ≤ 200)
def labOk (fl : Lb) (x : It) : Bool := L.rightB x.lv && L.belowB fl.1 fl.2 x.lv x.ct
def labelledB (fl : Lb) (l : List It) : Bool := l.all (labOk fl)
def formOk (x : It) : Bool := !(x.an && (!x.tx.isEmpty || x.ba)) && !((x.ba && x.tx.isEmpty) || x.tx.contains 10)
def formedB (l : List It) : Bool := l.all formOk
def check (fl : Lb) (l : List It) : Nat := if limitsB l = false then 4 else if labelledB fl l = false then 5 else if formedB l = false then 3 else 0

/-- The regions that stay open ahead of an item of a label. -/
def popTo (a : Lb) : List Lb → List Lb
  | [] => []
  | t :: r => if L.belowB t.1 t.2 a.1 a.2 = true ∧ ¬ (r.length = 16 ∧ t ≠ a) then t :: r else popTo a r
def ends (op : List Lb) (a : Lb) : List (List UInt8) := List.replicate (op.length - (popTo a op).length) kEnd
def opened (op : List Lb) (a : Lb) : List Lb := if (popTo a op).head? = some a then popTo a op else a :: popTo a op
def opens (op : List Lb) (a : Lb) : List (List UInt8) := if (popTo a op).head? = some a then [] else [kBegin ++ L.print a.1 a.2]
def esc (t : List UInt8) : List UInt8 := if kSign <+: t then 64 :: t else t
def putLines (x : It) : List (List UInt8) := if x.an then [kAnchor] else esc x.tx :: (if x.ba then [kBare] else [])
def outOf : List Lb → List It → List (List UInt8)
  | op, [] => List.replicate (op.length - 1) kEnd
  | op, x :: r => ends op x.lb ++ (opens op x.lb ++ (putLines x ++ outOf (opened op x.lb) r))
def plain (ls : List (List UInt8)) : List (List UInt8 × Bool) := ls.map fun t => (t, false)
def printLines (fl : Lb) (l : List It) : List (List UInt8) := outOf [fl] l
def printBytes (fl : Lb) (l : List It) : List UInt8 := P.join (plain (printLines fl l))
def print (fl : Lb) (l : List It) : List UInt8 ⊕ Nat :=
  if check fl l ≠ 0 then .inr (check fl l) else if 400 < l.length then .inr 4 else if 32768 < (printBytes fl l).length then .inr 4 else .inl (printBytes fl l)
/-- The items with the IDs that come next. -/
def numbered : Nat → List It → List It
  | _, [] => []
  | k, x :: r => ⟨(k : Int) + 1, x.lv, x.ct, x.an, x.tx, x.ba⟩ :: numbered (k + 1) r

/-! ### Lists of lines -/
theorem takeAll_append (n0 n1 : Int) : ∀ (a : List (List UInt8 × Bool)) (s : Ps) (i : Nat) (b : List (List UInt8 × Bool)),
    takeAll n0 n1 s i (a ++ b) = (match takeAll n0 n1 s i a with | .inl t => takeAll n0 n1 t (i + a.length) b | .inr e => .inr e)
  | [], s, i, b => by simp [takeAll]
  | x :: r, s, i, b => by
    rw [List.cons_append, takeAll, takeAll]
    cases take n0 n1 (i + 1) s x with
    | inr e => rfl
    | inl t =>
      simp only [takeAll_append n0 n1 r t (i + 1) b, List.length_cons]
      rw [show i + 1 + r.length = i + (r.length + 1) by omega]
theorem plain_append (a b : List (List UInt8)) : plain (a ++ b) = plain a ++ plain b := by simp [plain]
theorem plain_length (a : List (List UInt8)) : (plain a).length = a.length := by simp [plain]
theorem join_plain : ∀ a : List (List UInt8), P.join (plain a) = a.flatMap fun t => t ++ [10]
  | [] => rfl
  | t :: r => by
    have ih := join_plain r
    unfold plain at ih ⊢
    rw [List.map_cons, P.join, ih]; simp
theorem right_plain : ∀ a : List (List UInt8), (∀ t ∈ a, (10 : UInt8) ∉ t) → P.right (plain a) = true
  | [], _ => rfl
  | t :: r, h => by
    have ih := right_plain r (fun x hx => h x (by simp [hx]))
    have ht := h t (by simp)
    unfold plain at ih ⊢
    rw [List.map_cons, P.right, ih]; simp [ht]
theorem bulk_plain : ∀ a : List (List UInt8), P.bulk (plain a) = (a.map fun t => t.length + 1).sum
  | [] => rfl
  | t :: r => by
    have ih := bulk_plain r
    unfold plain at ih ⊢
    rw [List.map_cons, P.bulk, ih]; simp

/-! ### The order of labels -/
theorem below_refl (a : Lb) : L.belowB a.1 a.2 a.1 a.2 = true := by simp [L.belowB]
theorem below_anti {a b : Lb} (h : L.belowB a.1 a.2 b.1 b.2 = true) (h' : L.belowB b.1 b.2 a.1 a.2 = true) : a = b := by
  simp only [L.belowB, Bool.and_eq_true, decide_eq_true_eq, beq_iff_eq] at h h'
  refine Prod.ext (by omega) ?_
  rw [← h'.2, Nat.or_comm]; exact h.2
theorem below_trans {a b c : Lb} (h : L.belowB a.1 a.2 b.1 b.2 = true) (h' : L.belowB b.1 b.2 c.1 c.2 = true) : L.belowB a.1 a.2 c.1 c.2 = true := by
  simp only [L.belowB, Bool.and_eq_true, decide_eq_true_eq, beq_iff_eq] at h h' ⊢
  refine ⟨by omega, ?_⟩
  rw [← h'.2, ← Nat.or_assoc, h.2]

/-! ### The regions -/
/-- The stack of a marked text: the floor's label last, all above it, not too many. -/
structure Stk (fl : Lb) (op : List Lb) : Prop where
  last : op.getLast? = some fl
  up : ∀ a ∈ op, L.belowB fl.1 fl.2 a.1 a.2 = true
  few : op.length ≤ 17
theorem Stk.ne {fl : Lb} {op : List Lb} (h : Stk fl op) : op ≠ [] := fun e => by have := h.last; rw [e] at this; cases this
theorem Stk.pos {fl : Lb} {op : List Lb} (h : Stk fl op) : 0 < op.length := List.length_pos_iff.2 h.ne
theorem Stk.start (fl : Lb) : Stk fl [fl] := ⟨rfl, fun a ha => by rw [List.mem_singleton.1 ha]; exact below_refl fl, by simp⟩
theorem Stk.tail {fl t : Lb} {r : List Lb} (h : Stk fl (t :: r)) (hr : r ≠ []) : Stk fl r := by
  refine ⟨?_, fun a ha => h.up a (by simp [ha]), by have := h.few; simp at this; omega⟩
  have := h.last
  cases r with
  | nil => exact absurd rfl hr
  | cons u r' => rwa [List.getLast?_cons_cons] at this
theorem Stk.push {fl a : Lb} {op : List Lb} (h : Stk fl op) (ha : L.belowB fl.1 fl.2 a.1 a.2 = true) (hn : op.length ≤ 16) : Stk fl (a :: op) := by
  refine ⟨?_, fun b hb => ?_, by simp; omega⟩
  · have := h.last
    cases op with
    | nil => cases this
    | cons u r => rwa [List.getLast?_cons_cons]
  · rcases List.mem_cons.1 hb with rfl | hb
    · exact ha
    · exact h.up b hb
/-- What popTo leaves. -/
structure Popped (fl a : Lb) (op p : List Lb) : Prop where
  stk : Stk fl p
  drop : p = op.drop (op.length - p.length)
  le : p.length ≤ op.length
  head : ∃ t r, p = t :: r ∧ L.belowB t.1 t.2 a.1 a.2 = true ∧ ¬ (r.length = 16 ∧ t ≠ a)
theorem popped {fl a : Lb} (ha : L.belowB fl.1 fl.2 a.1 a.2 = true) : ∀ {op : List Lb}, Stk fl op → Popped fl a op (popTo a op)
  | [], h => absurd rfl h.ne
  | t :: r, h => by
    rw [popTo]
    split
    · next hc => exact ⟨h, by simp, Nat.le_refl _, t, r, rfl, hc.1, hc.2⟩
    · next hc =>
      by_cases hr : r = []
      · subst hr
        have := h.last
        simp at this
        subst this
        exact absurd ⟨ha, by simp⟩ hc
      · have ih := popped ha (h.tail hr)
        have hle := ih.le
        refine ⟨ih.stk, ?_, by simp; omega, ih.head⟩
        rw [show (t :: r).length - (popTo a r).length = (r.length - (popTo a r).length) + 1 by simp; omega, List.drop_succ_cons]
        exact ih.drop
theorem opened_stk {fl a : Lb} {op : List Lb} (ha : L.belowB fl.1 fl.2 a.1 a.2 = true) (h : Stk fl op) : Stk fl (opened op a) := by
  have hp := popped ha h
  obtain ⟨t, r, he, hb, hn⟩ := hp.head
  unfold opened
  split
  · exact hp.stk
  · next hne =>
    refine hp.stk.push ha ?_
    have hta : t ≠ a := fun e => hne (by rw [he, e]; rfl)
    have := hp.stk.few
    rw [he] at this ⊢
    simp at this ⊢
    by_cases e : r.length = 16
    · exact absurd ⟨e, hta⟩ hn
    · omega
theorem opened_head (op : List Lb) (a : Lb) : (opened op a).headD (0, 0) = a := by
  unfold opened
  split
  · next h =>
    cases hp : popTo a op with
    | nil => rw [hp] at h; cases h
    | cons t r => rw [hp] at h; simpa using h
  · rfl

/-! ### The lines of items, read -/
theorem take_end (n0 n1 : Int) (k : Nat) (s : Ps) (h : 1 < s.op.length) : take n0 n1 k s (kEnd, false) = .inl ⟨s.op.tail, s.its, s.con⟩ := by
  have h1 : ¬ kEsc <+: kEnd := by decide
  have h2 : kMark <+: kEnd := by decide
  rw [take, if_neg h1, if_pos h2, mark, if_pos rfl, if_pos h]
theorem take_anchor (n0 n1 : Int) (k : Nat) (s : Ps) : take n0 n1 k s (kAnchor, false) = add s true [] false := by
  have h1 : ¬ kEsc <+: kAnchor := by decide
  have h2 : kMark <+: kAnchor := by decide
  have h3 : ¬ kAnchor = kEnd := by decide
  rw [take, if_neg h1, if_pos h2, mark, if_neg h3, if_pos rfl]
theorem take_bare (n0 n1 : Int) (k : Nat) (s : Ps) : take n0 n1 k s (kBare, false) = bare s k := by
  have h1 : ¬ kEsc <+: kBare := by decide
  have h2 : kMark <+: kBare := by decide
  have h3 : ¬ kBare = kEnd := by decide
  have h4 : ¬ kBare = kAnchor := by decide
  rw [take, if_neg h1, if_pos h2, mark, if_neg h3, if_neg h4, if_pos rfl]
theorem take_begin (n0 n1 : Int) (k : Nat) (s : Ps) (w : List UInt8) : take n0 n1 k s (kBegin ++ w, false) = begins n0 n1 s w := by
  have h1 : ¬ kEsc <+: kBegin ++ w := by
    show ¬ [64, 64, 64] <+: 64 :: 64 :: 32 :: _
    simp
  have h2 : kMark <+: kBegin ++ w := ⟨[98, 101, 103, 105, 110, 32] ++ w, by simp [kMark, kBegin]⟩
  have h3 : ¬ kBegin ++ w = kEnd := by simp [kBegin, kEnd]
  have h4 : ¬ kBegin ++ w = kAnchor := by simp [kBegin, kAnchor]
  have h5 : ¬ kBegin ++ w = kBare := by simp [kBegin, kBare]
  have h6 : kBegin <+: kBegin ++ w := List.prefix_append _ _
  rw [take, if_neg h1, if_pos h2, mark, if_neg h3, if_neg h4, if_neg h5, if_pos h6]
  rfl
theorem take_line (n0 n1 : Int) (k : Nat) (s : Ps) (t : List UInt8) (b : Bool) : take n0 n1 k s (esc t, b) = content s k t b := by
  unfold esc
  by_cases h : kSign <+: t
  · rw [if_pos h]
    have h1 : kEsc <+: 64 :: t := by
      obtain ⟨r, hr⟩ := h
      exact ⟨r, by rw [← hr]; rfl⟩
    rw [take, if_pos h1]
    rfl
  · rw [if_neg h]
    have h1 : ¬ kEsc <+: t := fun ⟨r, hr⟩ => h ⟨64 :: r, by rw [← hr]; rfl⟩
    have h2 : ¬ kMark <+: t := fun ⟨r, hr⟩ => h ⟨32 :: r, by rw [← hr]; rfl⟩
    rw [take, if_neg h1, if_neg h2, if_neg h]
theorem takeAll_ends (n0 n1 : Int) : ∀ (m : Nat) (s : Ps) (i : Nat), m < s.op.length → takeAll n0 n1 s i (plain (List.replicate m kEnd)) = .inl ⟨s.op.drop m, s.its, s.con⟩
  | 0, s, i, _ => by simp [plain, takeAll]
  | m + 1, s, i, h => by
    rw [List.replicate_succ]
    show takeAll n0 n1 s i ((kEnd, false) :: plain (List.replicate m kEnd)) = _
    rw [takeAll, take_end n0 n1 (i + 1) s (by omega)]
    simp only
    rw [takeAll_ends n0 n1 m _ _ (by simp; omega)]
    simp
theorem takeAll_one {n0 n1 : Int} {s t : Ps} {i : Nat} {x : List UInt8} (h : take n0 n1 (i + 1) s (x, false) = .inl t) : takeAll n0 n1 s i (plain [x]) = .inl t := by
  show takeAll n0 n1 s i [(x, false)] = _
  rw [takeAll, h]; rfl
/-- Ahead of an item its region is opened. -/
theorem takeAll_enter {n0 n1 : Int} {fl a : Lb} {s : Ps} (i : Nat) (hs : Stk fl s.op) (hr : L.rightB a.1 = true) (hb : L.belowB fl.1 fl.2 a.1 a.2 = true) (hc : a.2 < 18446744073709551616) (hf : O.fitsB n0 n1 a.1 a.2 = true ∨ a = fl) :
    takeAll n0 n1 s i (plain (ends s.op a ++ opens s.op a)) = .inl ⟨opened s.op a, s.its, s.con⟩ := by
  have hp := popped hb hs
  obtain ⟨t, r, he, htb, hn⟩ := hp.head
  have hpl : 0 < (popTo a s.op).length := by rw [he]; simp
  have hle := hp.le
  rw [plain_append, takeAll_append]
  unfold ends
  rw [takeAll_ends n0 n1 _ s i (by omega), ← hp.drop]
  simp only
  unfold opens opened
  by_cases hh : (popTo a s.op).head? = some a
  · rw [if_pos hh, if_pos hh]; rfl
  · rw [if_neg hh, if_neg hh]
    have hta : t ≠ a := fun e => hh (by rw [he, e]; rfl)
    have hfit : O.fitsB n0 n1 a.1 a.2 = true := by
      rcases hf with hf | hf
      · exact hf
      · subst hf
        exact absurd (below_anti htb (hp.stk.up t (by rw [he]; simp))) hta
    refine takeAll_one ?_
    have hlt : (popTo a s.op).length ≤ 16 := by
      have := hp.stk.few
      rw [he] at this ⊢
      simp at this ⊢
      by_cases e : r.length = 16
      · exact absurd ⟨e, hta⟩ hn
      · omega
    rw [take_begin, begins, L.parse_print a.1 a.2 hc hr]
    have h0 : 0 ≤ a.1 := by simp [L.rightB] at hr; omega
    have e1 : ((a.1.toNat : Nat) : Int) = a.1 := Int.toNat_of_nonneg h0
    have htop : (Ps.mk (popTo a s.op) s.its s.con).top = t := by simp [Ps.top, he]
    simp only [htop, e1, hfit, htb, Bool.and_self, if_true, if_pos hlt]
theorem last_snoc (l : List It) (x : It) : (l ++ [x]).getLast? = some x := by simp
theorem drop_snoc (l : List It) (x : It) : (l ++ [x]).dropLast = l := by simp
/-- The lines of an item, read where its region is open. -/
theorem takeAll_put {n0 n1 : Int} {s : Ps} {x : It} (i : Nat) (ht : s.op.headD (0, 0) = x.lb) (hn : s.its.length < 400) (hx : x.tx.length ≤ 200) (hf : formOk x = true) :
    ∃ con, takeAll n0 n1 s i (plain (putLines x)) = .inl ⟨s.op, s.its ++ [⟨(s.its.length : Int) + 1, x.lv, x.ct, x.an, x.tx, x.ba⟩], con⟩ := by
  have htop : s.top = (x.lv, x.ct) := ht
  obtain ⟨id, lv, ct, an, tx, ba⟩ := x
  simp only at hx htop ⊢
  unfold putLines
  simp only
  unfold formOk at hf
  cases an with
  | true =>
    simp at hf
    obtain ⟨⟨rfl, rfl⟩, -⟩ := hf
    refine ⟨s.con, takeAll_one ?_⟩
    rw [take_anchor, add, if_pos hn, htop]
  | false =>
    have hcon : ∀ b, take n0 n1 (i + 1) s (esc tx, b) = .inl ⟨s.op, s.its ++ [⟨(s.its.length : Int) + 1, lv, ct, false, tx, b⟩], i + 1⟩ := fun b => by
      rw [take_line, content, if_pos hx, add, if_pos hn, htop]
    cases ba with
    | false => exact ⟨i + 1, takeAll_one (hcon false)⟩
    | true =>
      simp at hf
      refine ⟨i + 1, ?_⟩
      show takeAll n0 n1 s i ((esc tx, false) :: plain [kBare]) = _
      rw [takeAll, hcon false]
      simp only
      refine takeAll_one ?_
      rw [take_bare, bare, if_pos ⟨by simp, by simp⟩, last_snoc]
      simp only
      rw [if_neg hf.1, drop_snoc]
theorem takeAll_out (n0 n1 : Int) (fl : Lb) : ∀ (l : List It) (s : Ps) (i : Nat), Stk fl s.op → s.its.length + l.length ≤ 400 → (∀ x ∈ l, labOk fl x = true ∧ x.tx.length ≤ 200 ∧ formOk x = true ∧ x.ct < 18446744073709551616 ∧ (O.fitsB n0 n1 x.lv x.ct = true ∨ x.lb = fl)) →
    ∃ con, takeAll n0 n1 s i (plain (outOf s.op l)) = .inl ⟨[fl], s.its ++ numbered s.its.length l, con⟩
  | [], s, i, hs, hn, h => by
    refine ⟨s.con, ?_⟩
    have hp := hs.pos
    rw [outOf, takeAll_ends n0 n1 _ s i (by omega)]
    have e : s.op.drop (s.op.length - 1) = [fl] := by
      have := hs.last
      rw [List.getLast?_eq_getElem?, List.getElem?_eq_getElem (by omega)] at this
      rw [List.drop_eq_getElem_cons (by omega), List.drop_eq_nil_of_le (by omega)]
      simpa using this
    rw [e]; simp [numbered]
  | x :: r, s, i, hs, hn, h => by
    obtain ⟨h1, h2, h3, h4, h5⟩ := h x (by simp)
    simp only [labOk, Bool.and_eq_true] at h1
    simp at hn
    rw [outOf, ← List.append_assoc, plain_append, takeAll_append, takeAll_enter i hs h1.1 h1.2 h4 h5]
    simp only
    rw [plain_append (putLines x), takeAll_append]
    obtain ⟨con, hc⟩ := takeAll_put (n0 := n0) (n1 := n1) (s := ⟨opened s.op x.lb, s.its, s.con⟩) (i + (plain (ends s.op x.lb ++ opens s.op x.lb)).length) (opened_head s.op x.lb) (by simp; omega) h2 h3
    rw [hc]
    simp only
    obtain ⟨con2, hc2⟩ := takeAll_out n0 n1 fl r ⟨opened s.op x.lb, s.its ++ [⟨(s.its.length : Int) + 1, x.lv, x.ct, x.an, x.tx, x.ba⟩], con⟩ (i + (plain (ends s.op x.lb ++ opens s.op x.lb)).length + (plain (putLines x)).length) (opened_stk h1.2 hs) (by simp; omega) (fun y hy => h y (by simp [hy]))
    refine ⟨con2, hc2.trans ?_⟩
    simp [numbered]
end Go.Proofs.YtadhhamfikpimaaDoor.I

namespace Go.Proofs.YtadhhamfikpimaaDoor.I
set_option linter.unusedVariables false
set_option linter.unusedSimpArgs false

theorem dec_high (n : Int) : ∀ x ∈ P.decimal n, 33 ≤ x.toNat := by
  have hd : ∀ u : Nat, ∀ x ∈ Lib.decDigits u, 48 ≤ x.toNat := by
    intro u
    induction u using Nat.strongRecOn with
    | ind u ih =>
      intro x hx
      rw [Lib.decDigits] at hx
      split at hx
      · next h => rw [List.mem_singleton.1 hx, P.digit u h]; omega
      · next h =>
        rw [List.mem_append] at hx
        rcases hx with hx | hx
        · exact ih (u / 10) (by omega) x hx
        · rw [List.mem_singleton.1 hx, P.digit _ (by omega)]; omega
  intro x hx
  unfold P.decimal at hx
  split at hx
  · rw [List.mem_singleton.1 hx]; decide
  · have := hd _ x hx; omega
theorem join_high : ∀ xs : List (List UInt8), (∀ t ∈ xs, ∀ x ∈ t, 33 ≤ x.toNat) → ∀ x ∈ Lib.join xs [44], 33 ≤ x.toNat
  | [], _, x, hx => by simp [Lib.join] at hx
  | [t], h, x, hx => by
    have : Lib.join [t] [44] = t := by simp [Lib.join]
    rw [this] at hx
    exact h t (by simp) x hx
  | t :: u :: r, h, x, hx => by
    have e : Lib.join (t :: u :: r) [44] = t ++ (44 :: Lib.join (u :: r) [44]) := by
      unfold Lib.join; rw [List.intercalate_cons_cons]; simp
    rw [e, List.mem_append, List.mem_cons] at hx
    rcases hx with hx | rfl | hx
    · exact h t (by simp) x hx
    · decide
    · exact join_high (u :: r) (fun y hy => h y (by simp [hy])) x hx
theorem print_no (l : Int) (c : Nat) : (10 : UInt8) ∉ L.print l c := fun hm => by
  have : ∀ x ∈ L.print l c, 33 ≤ x.toNat := by
    intro x hx
    unfold L.print at hx
    split at hx
    · exact dec_high l x hx
    · simp only [List.mem_append, List.mem_singleton, List.append_assoc] at hx
      rcases hx with hx | hx
      · exact dec_high l x hx
      · rcases hx with rfl | hx
        · decide
        · unfold L.catsText at hx
          refine join_high _ (fun t ht => ?_) x hx
          obtain ⟨n, _, rfl⟩ := List.mem_map.1 ht
          exact dec_high _
  have := this 10 hm
  simp at this
theorem has_form {x : It} (h : formOk x = true) : (10 : UInt8) ∉ x.tx := by
  unfold formOk at h
  simp at h
  exact h.2.2
theorem out_no : ∀ (l : List It) (op : List Lb), (∀ x ∈ l, formOk x = true) → ∀ t ∈ outOf op l, (10 : UInt8) ∉ t
  | [], op, _, t, ht => by
    rw [outOf] at ht
    rw [List.eq_of_mem_replicate ht]; decide
  | x :: r, op, h, t, ht => by
    rw [outOf, List.mem_append, List.mem_append, List.mem_append] at ht
    rcases ht with ht | ht | ht | ht
    · rw [ends] at ht
      rw [List.eq_of_mem_replicate ht]; decide
    · rw [opens] at ht
      split at ht
      · cases ht
      · rw [List.mem_singleton.1 ht, List.mem_append]
        rintro (h1 | h1)
        · exact absurd h1 (by decide)
        · exact print_no _ _ h1
    · have h10 := has_form (h x (by simp))
      rw [putLines] at ht
      split at ht
      · rw [List.mem_singleton.1 ht]; decide
      · rcases List.mem_cons.1 ht with rfl | ht
        · unfold esc
          split
          · simp only [List.mem_cons, not_or]
            exact ⟨by decide, h10⟩
          · exact h10
        · split at ht
          · rw [List.mem_singleton.1 ht]; decide
          · cases ht
    · exact out_no r _ (fun y hy => h y (by simp [hy])) t ht

/-! ### How many bytes -/
theorem bulk_append (a b : List (List UInt8)) : P.bulk (plain (a ++ b)) = P.bulk (plain a) + P.bulk (plain b) := by
  rw [bulk_plain, bulk_plain, bulk_plain, List.map_append, List.sum_append]
theorem bulk_ends : ∀ n, P.bulk (plain (List.replicate n kEnd)) = 7 * n
  | 0 => rfl
  | n + 1 => by
    have ih := bulk_ends n
    rw [List.replicate_succ]
    unfold plain at ih ⊢
    rw [List.map_cons, P.bulk, ih]
    simp [kEnd]; omega
theorem popTo_le (a : Lb) : ∀ op : List Lb, (popTo a op).length ≤ op.length
  | [] => Nat.le_refl _
  | t :: r => by
    have := popTo_le a r
    rw [popTo]; split <;> simp; omega
theorem opened_le (op : List Lb) (a : Lb) : (opened op a).length ≤ op.length + 1 := by
  have := popTo_le a op
  unfold opened
  split <;> simp <;> omega
theorem bulk_opens (op : List Lb) (a : Lb) : P.bulk (plain (opens op a)) ≤ 1010 := by
  have := L.print_len a.1 a.2
  unfold opens
  split
  · simp [plain, P.bulk]
  · simp [plain, P.bulk, kBegin]; omega
theorem bulk_put {x : It} (h : x.tx.length ≤ 200) : P.bulk (plain (putLines x)) ≤ 210 := by
  have he : (esc x.tx).length ≤ 201 := by
    unfold esc
    split
    · simp; omega
    · omega
  unfold putLines
  split
  · simp [plain, P.bulk, kAnchor]
  · split
    · simp [plain, P.bulk, kBare]; omega
    · simp [plain, P.bulk]; omega
theorem bulk_out : ∀ (l : List It) (op : List Lb) (N : Nat), op.length + l.length ≤ N → (∀ x ∈ l, x.tx.length ≤ 200) → P.bulk (plain (outOf op l)) ≤ l.length * (7 * N + 1220) + 7 * N
  | [], op, N, hN, _ => by rw [outOf, bulk_ends]; simp at hN; simp; omega
  | x :: r, op, N, hN, h => by
    have h1 : P.bulk (plain (ends op x.lb)) ≤ 7 * N := by rw [ends, bulk_ends]; simp at hN; omega
    have h2 := bulk_opens op x.lb
    have h3 := bulk_put (h x (by simp))
    have h5 := opened_le op x.lb
    have h4 := bulk_out r (opened op x.lb) N (by simp at hN; omega) (fun y hy => h y (by simp [hy]))
    rw [outOf, bulk_append, bulk_append, bulk_append]
    rw [List.length_cons, Nat.add_mul]
    omega
theorem bulk_print (fl : Lb) (l : List It) (hl : l.length ≤ 400) (h : ∀ x ∈ l, x.tx.length ≤ 200) : P.bulk (plain (printLines fl l)) ≤ 2000000 := by
  have := bulk_out l [fl] 401 (by simp; omega) h
  unfold printLines
  have h2 : l.length * (7 * 401 + 1220) ≤ 400 * (7 * 401 + 1220) := Nat.mul_le_mul_right _ hl
  omega

/-! ### What is printed is read as it was -/
theorem check_zero {fl : Lb} {l : List It} (h : check fl l = 0) : ∀ x ∈ l, labOk fl x = true ∧ x.tx.length ≤ 200 ∧ formOk x = true := by
  unfold check at h
  split at h
  · cases h
  · next h1 =>
    split at h
    · cases h
    · next h2 =>
      split at h
      · cases h
      · next h3 =>
        simp only [Bool.not_eq_false] at h1 h2 h3
        unfold limitsB at h1
        rw [Bool.and_eq_true] at h1
        intro x hx
        refine ⟨List.all_eq_true.1 h2 x hx, of_decide_eq_true (List.all_eq_true.1 h1.2 x hx), List.all_eq_true.1 h3 x hx⟩
theorem print_inl {fl : Lb} {l : List It} {y : List UInt8} (h : print fl l = .inl y) : check fl l = 0 ∧ l.length ≤ 400 ∧ (printBytes fl l).length ≤ 32768 ∧ y = printBytes fl l := by
  unfold print at h
  split at h
  · cases h
  · next h1 =>
    split at h
    · cases h
    · next h2 =>
      split at h
      · cases h
      · next h3 =>
        injection h with h
        exact ⟨by simpa using h1, by omega, by omega, h.symm⟩
theorem lines_print {fl : Lb} {l : List It} (h : check fl l = 0) : P.lines [] (printBytes fl l) = plain (printLines fl l) :=
  P.lines_join _ (right_plain _ (out_no l [fl] (fun x hx => (check_zero h x hx).2.2)))
theorem back {n0 n1 : Int} {fl : Lb} {l : List It} {y : List UInt8} (h : print fl l = .inl y) (hl : ∀ x ∈ l, x.ct < 18446744073709551616 ∧ (O.fitsB n0 n1 x.lv x.ct = true ∨ x.lb = fl)) : parse n0 n1 fl y = .inl (numbered 0 l) := by
  obtain ⟨hc, hn, hb, rfl⟩ := print_inl h
  have hz := check_zero hc
  obtain ⟨con, hr⟩ := takeAll_out n0 n1 fl l (Ps.start fl) 0 (Stk.start fl) (by simpa [Ps.start] using hn) (fun x hx => ⟨(hz x hx).1, (hz x hx).2.1, (hz x hx).2.2, (hl x hx).1, (hl x hx).2⟩)
  unfold parse
  rw [if_neg (by omega), lines_print hc, readAll]
  have hr' : takeAll n0 n1 (Ps.start fl) 0 (plain (printLines fl l)) = .inl ⟨[fl], [] ++ numbered 0 l, con⟩ := hr
  rw [hr']
  simp

/-! ### What is read may be printed -/
theorem right_mem : ∀ {xs : List (List UInt8 × Bool)}, P.right xs = true → ∀ x ∈ xs, (10 : UInt8) ∉ x.1 ∧ (x.2 = true → x.1 ≠ [])
  | [], _, x, hx => by cases hx
  | (t, b) :: r, h, x, hx => by
    rw [P.right, Bool.and_eq_true, Bool.and_eq_true] at h
    obtain ⟨⟨h1, h2⟩, h3⟩ := h
    rcases List.mem_cons.1 hx with rfl | hx
    · refine ⟨by simpa using h1, fun hb he => ?_⟩
      simp only at hb he
      rw [hb, he] at h2
      simp at h2
    · exact right_mem h3 x hx
theorem numbered_snoc : ∀ (l : List It) (k : Nat) (x : It), numbered k (l ++ [x]) = numbered k l ++ [⟨((k + l.length : Nat) : Int) + 1, x.lv, x.ct, x.an, x.tx, x.ba⟩]
  | [], k, x => by simp [numbered]
  | y :: r, k, x => by
    rw [List.cons_append, numbered, numbered, numbered_snoc r (k + 1) x, List.cons_append, List.length_cons]
    rw [show k + 1 + r.length = k + (r.length + 1) by omega]
theorem numbered_length : ∀ (l : List It) (k : Nat), (numbered k l).length = l.length
  | [], _ => rfl
  | x :: r, k => by rw [numbered, List.length_cons, numbered_length r, List.length_cons]
/-- May a label of a text be? -/
def Lok (n0 n1 : Int) (fl a : Lb) : Prop := a = fl ∨ (O.fitsB n0 n1 a.1 a.2 = true ∧ L.rightB a.1 = true ∧ a.2 < 18446744073709551616)
structure Good (n0 n1 : Int) (fl : Lb) (i : Nat) (s : Ps) : Prop where
  stk : Stk fl s.op
  fit : ∀ a ∈ s.op, Lok n0 n1 fl a
  len : s.its.length ≤ 400
  its : ∀ x ∈ s.its, L.belowB fl.1 fl.2 x.lv x.ct = true ∧ Lok n0 n1 fl x.lb ∧ x.tx.length ≤ 200 ∧ formOk x = true
  num : numbered 0 s.its = s.its
  con : s.con ≤ i
  last : 0 < s.con → s.con = i → ∃ x, s.its.getLast? = some x ∧ x.an = false
theorem Good.start (n0 n1 : Int) (fl : Lb) : Good n0 n1 fl 0 (Ps.start fl) :=
  ⟨Stk.start fl, fun a ha => .inl (List.mem_singleton.1 ha), by simp [Ps.start], fun x hx => (by cases hx), rfl, Nat.le_refl _, fun h => absurd h (by simp [Ps.start])⟩
theorem top_mem {fl : Lb} {s : Ps} (h : Stk fl s.op) : s.top ∈ s.op := by
  unfold Ps.top
  cases hs : s.op with
  | nil => exact absurd hs h.ne
  | cons t r => simp
theorem Good.add {n0 n1 : Int} {fl : Lb} {i j : Nat} {s t : Ps} (h : Good n0 n1 fl i s) {an : Bool} {tx : List UInt8} {ba : Bool} (ht : tx.length ≤ 200) (hf : formOk ⟨0, 0, 0, an, tx, ba⟩ = true) (he : add s an tx ba = .inl t) :
    Good n0 n1 fl j ⟨t.op, t.its, 0⟩ ∧ t.con = s.con ∧ t.op = s.op ∧ ∃ x, t.its.getLast? = some x ∧ x.an = an := by
  unfold I.add at he
  split at he
  · next hn =>
    injection he with he
    subst he
    have htm := top_mem h.stk
    refine ⟨⟨h.stk, h.fit, by simp; omega, fun x hx => ?_, ?_, Nat.zero_le _, fun h => absurd h (by simp)⟩, rfl, rfl, _, last_snoc _ _, rfl⟩
    · rcases List.mem_append.1 hx with hx | hx
      · exact h.its x hx
      · obtain rfl := List.mem_singleton.1 hx
        exact ⟨h.stk.up _ htm, h.fit _ htm, ht, hf⟩
    · simp only
      rw [numbered_snoc, h.num]; simp
  · cases he
theorem Good.step {n0 n1 : Int} {fl : Lb} {i : Nat} {s t : Ps} {x : List UInt8 × Bool} (h : Good n0 n1 fl i s) (h10 : (10 : UInt8) ∉ x.1) (hb : x.2 = true → x.1 ≠ []) (he : take n0 n1 (i + 1) s x = .inl t) : Good n0 n1 fl (i + 1) t := by
  have hcon : ∀ (tx : List UInt8) (ba : Bool), (10 : UInt8) ∉ tx → (ba = true → tx ≠ []) → content s (i + 1) tx ba = .inl t → Good n0 n1 fl (i + 1) t := by
    intro tx ba h1 h2 he
    unfold content at he
    split at he
    · next hl =>
      cases ha : I.add s false tx ba with
      | inr e => rw [ha] at he; cases he
      | inl u =>
        rw [ha] at he
        injection he with he
        subst he
        obtain ⟨g, _, _, y, hy, hya⟩ := h.add (j := i + 1) hl (by
          unfold formOk
          simp
          refine ⟨?_, h1⟩
          cases ba with
          | false => simp
          | true => simpa using h2 rfl) ha
        exact ⟨g.stk, g.fit, g.len, g.its, g.num, Nat.le_refl _, fun _ _ => ⟨y, hy, hya⟩⟩
    · cases he
  unfold take at he
  split at he
  · next hp =>
    refine hcon _ _ (fun hm => h10 (List.mem_of_mem_drop hm)) (fun _ => ?_) he
    obtain ⟨r, hr⟩ := hp
    rw [← hr]; simp [kEsc]
  · split at he
    · unfold mark at he
      split at he
      · -- end
        split at he
        · next hl =>
          injection he with he
          subst he
          cases ho : s.op with
          | nil => exact absurd ho h.stk.ne
          | cons a r =>
            rw [ho] at hl
            have hr : r ≠ [] := fun e => by rw [e] at hl; simp at hl
            have hst := h.stk
            rw [ho] at hst
            refine ⟨hst.tail hr, fun b hb => h.fit b (by rw [ho]; simp at hb ⊢; exact .inr hb), h.len, h.its, h.num, by have := h.con; simp only; omega, fun _ e => by have := h.con; simp only at e; omega⟩
        · cases he
      · split at he
        · obtain ⟨g, hc, ho, y, hy, _⟩ := h.add (j := i + 1) (by simp) (by decide) he
          exact ⟨g.stk, g.fit, g.len, g.its, g.num, by rw [hc]; have := h.con; omega, fun _ e => by rw [hc] at e; have := h.con; omega⟩
        · split at he
          · -- bare
            unfold bare at he
            split at he
            · next hc =>
              cases hl : s.its.getLast? with
              | none => rw [hl] at he; cases he
              | some y =>
                rw [hl] at he
                simp only at he
                split at he
                · cases he
                · next hne =>
                  injection he with he
                  subst he
                  obtain ⟨z, hz, hza⟩ := h.last hc.1 (by omega)
                  rw [hl] at hz
                  injection hz with hz
                  subst hz
                  have hsp : s.its = s.its.dropLast ++ [y] := by
                    rw [List.getLast?_eq_some_iff] at hl
                    obtain ⟨ys, hys⟩ := hl
                    rw [hys]; simp
                  have hym : y ∈ s.its := by rw [hsp]; simp
                  obtain ⟨q1, q2, q3, q4⟩ := h.its y hym
                  have hnum := h.num
                  have hln := h.len
                  refine ⟨h.stk, h.fit, ?_, fun x hx => ?_, ?_, by have := h.con; simp only; omega, fun _ e => by have := h.con; simp only at e; omega⟩
                  · rw [hsp] at hln; simpa using hln
                  · rcases List.mem_append.1 hx with hx | hx
                    · exact h.its x (List.dropLast_subset _ hx)
                    · obtain rfl := List.mem_singleton.1 hx
                      refine ⟨q1, q2, q3, ?_⟩
                      have h10 := has_form q4
                      unfold formOk
                      simp
                      exact ⟨hza, hne, h10⟩
                  · rw [hsp, numbered_snoc] at hnum
                    simp only
                    rw [numbered_snoc]
                    obtain ⟨e1, e2⟩ := List.append_inj' hnum rfl
                    rw [e1]
                    congr 1
                    simp only [List.cons.injEq, and_true] at e2 ⊢
                    have := congrArg It.id e2
                    simp only at this
                    rw [← this]
            · cases he
          · split at he
            · unfold begins at he
              split at he
              · cases he
              · next a ha =>
                split at he
                · next hf =>
                  split at he
                  · next hn =>
                    injection he with he
                    subst he
                    rw [Bool.and_eq_true] at hf
                    obtain ⟨-, hc, hr⟩ := L.print_parse (n := a.1) (c := a.2) ha
                    refine ⟨h.stk.push (below_trans (b := s.top) (h.stk.up _ (top_mem h.stk)) hf.2) hn, fun b hb => ?_, h.len, h.its, h.num, by have := h.con; simp only; omega, fun _ e => by have := h.con; simp only at e; omega⟩
                    rcases List.mem_cons.1 hb with rfl | hb
                    · exact .inr ⟨hf.1, by simp [L.rightB]; omega, hc⟩
                    · exact h.fit b hb
                  · cases he
                · cases he
            · cases he
    · split at he
      · cases he
      · exact hcon _ _ h10 hb he
theorem Good.all {n0 n1 : Int} {fl : Lb} : ∀ (ls : List (List UInt8 × Bool)) (i : Nat) (s t : Ps), Good n0 n1 fl i s → (∀ x ∈ ls, (10 : UInt8) ∉ x.1 ∧ (x.2 = true → x.1 ≠ [])) → takeAll n0 n1 s i ls = .inl t → Good n0 n1 fl (i + ls.length) t
  | [], i, s, t, h, _, he => by
    rw [takeAll] at he
    injection he with he
    subst he
    exact h
  | x :: r, i, s, t, h, hx, he => by
    rw [takeAll] at he
    cases ht : take n0 n1 (i + 1) s x with
    | inr e => rw [ht] at he; cases he
    | inl u =>
      rw [ht] at he
      have := Good.all r (i + 1) u t (h.step (hx x (by simp)).1 (hx x (by simp)).2 ht) (fun y hy => hx y (by simp [hy])) he
      rwa [show i + 1 + r.length = i + (x :: r).length by simp; omega] at this
theorem parse_good {n0 n1 : Int} {fl : Lb} {b : List UInt8} {l : List It} (h : parse n0 n1 fl b = .inl l) : ∃ s i, Good n0 n1 fl i s ∧ s.its = l := by
  unfold parse at h
  split at h
  · cases h
  · unfold readAll at h
    cases ht : takeAll n0 n1 (Ps.start fl) 0 (P.lines [] b) with
    | inr e => rw [ht] at h; cases h
    | inl s =>
      rw [ht] at h
      simp only at h
      split at h
      · injection h with h
        exact ⟨s, _, Good.all _ 0 _ _ (Good.start n0 n1 fl) (right_mem (P.right_lines b [] (by simp))) ht, h⟩
      · cases h
/-- What was read is printed so that it is read as the same; or it is too long, or its floor may not be. -/
theorem again {n0 n1 : Int} {fl : Lb} {b : List UInt8} {l : List It} (hfl : fl.2 < 18446744073709551616) (h : parse n0 n1 fl b = .inl l) :
    (∀ y, print fl l = .inl y → parse n0 n1 fl y = .inl l) ∧ (∀ e, print fl l = .inr e → e = 4 ∨ (e = 5 ∧ L.rightB fl.1 = false)) := by
  obtain ⟨s, i, g, rfl⟩ := parse_good h
  refine ⟨fun y hy => ?_, fun e he => ?_⟩
  · have := back (n0 := n0) (n1 := n1) hy (fun x hx => ?_)
    · rwa [g.num] at this
    · obtain ⟨-, hl, -⟩ := g.its x hx
      rcases hl with hl | ⟨h1, h2, h3⟩
      · exact ⟨by have : x.ct = fl.2 := congrArg Prod.snd hl; omega, .inr hl⟩
      · exact ⟨h3, .inl h1⟩
  · unfold print at he
    split at he
    · next hc =>
      injection he with he
      unfold check at hc he
      split at he
      · exact .inl he.symm
      · next h1 =>
        split at he
        · next h2 =>
          right
          refine ⟨he.symm, ?_⟩
          unfold labelledB at h2
          rw [List.all_eq_false] at h2
          obtain ⟨x, hx, hn⟩ := h2
          obtain ⟨hb, hl, -⟩ := g.its x hx
          simp only [labOk, hb, Bool.and_true, Bool.not_eq_true] at hn
          rcases hl with hl | ⟨-, h2, -⟩
          · rw [← show x.lv = fl.1 from congrArg Prod.fst hl]; exact hn
          · have h2' : L.rightB x.lv = true := h2
            rw [h2'] at hn; cases hn
        · next h2 =>
          split at he
          · next h3 =>
            unfold formedB at h3
            rw [List.all_eq_false] at h3
            obtain ⟨x, hx, hn⟩ := h3
            exact absurd (g.its x hx).2.2.2 hn
          · next h3 =>
            rw [if_neg h1, if_neg h2, if_neg h3] at hc
            exact absurd rfl hc
    · split at he
      · injection he with he; exact .inl he.symm
      · split at he
        · injection he with he; exact .inl he.symm
        · cases he
end Go.Proofs.YtadhhamfikpimaaDoor.I
