/-
  Plain functions for items: what a marked text says, line by line; which items may be; the lines of items. Nothing of the program stands in it; no condition.
  The contract of text.Name: it returns, whatever text it is handed, what the plain function says, and leaves the world as it was.
  Small facts on texts as bytes; the contracts of text.Number and text.Decimal in closed form.
  The contracts of policy's need, Fits, numbers, number.right, rightHidden.
  A stack of labels in memory, of which some may be cut off; a label more on it; the contracts of item's need, top, depth, closed.
  A map from texts to numbers as a function; a policy's reader in memory; the contracts of its say and needSaid.
  An item's reader in memory; the contracts of its add and takeContent.
  The contracts of the reader's add, in one, and takeContent.
  The contracts of the reader's name and label.
  The contract of the reader's takeBare.
  The contract of the reader's takeBegin.
  Items in memory, wherever they lie; the contracts of item's withinLimits and labelled.
-/
import Derived.Test.YtlggoplffhdkhaaDoorGjl
import Derived.Test.YtlggoplffhdkhaaDoorGjh
import Derived.Test.YtlggoplffhdkhaaDoorGjc
import Derived.Test.YtlggoplffhdkhaaDoorGjd
import Derived.Test.YtlggoplffhdkhaaDoorGja
import Derived.Test.YtlggoplffhdkhaaDoorGjf
import Derived.StillTailTactics
import Derived.Deep.QuietTactic
import Derived.BigQuiet
import Derived.Laws.Bits64
import Derived.Deep.AppendSrc
import Derived.Deep.AppendLies
import Derived.Laws.Rows
import Derived.StringKeys
import Derived.Maps.OwnOps
import Derived.Maps.Views
import Derived.Deep.RegionHeld
import Derived.Deep.RegionHeldLaw
import Derived.Deep.DrawnRows
import Derived.RegionTactic
import Derived.BigRegion
import Derived.Deep.RegionWith
import Derived.Laws.OwnMore
import Derived.IntWalk
import Derived.Deep.DeepCutAuto
namespace Go.Proofs.YtlggoplffhdkhaaDoor.I
set_option linter.unusedVariables false
set_option linter.unusedSimpArgs false

/-- A marked text while its lines are read: the labels of the open regions, the innermost first and the floor's last; the items; the last line that was content. -/
structure Ps where
  op : List Lb
  its : List It
  con : Nat
deriving DecidableEq

def kEnd : List UInt8 := [64, 64, 32, 101, 110, 100]
def kAnchor : List UInt8 := [64, 64, 32, 97, 110, 99, 104, 111, 114]
def kBare : List UInt8 := [64, 64, 32, 98, 97, 114, 101]
def kBegin : List UInt8 := [64, 64, 32, 98, 101, 103, 105, 110, 32]
def kEsc : List UInt8 := [64, 64, 64]
def kMark : List UInt8 := [64, 64, 32]
def kSign : List UInt8 := [64, 64]

def Ps.top (s : Ps) : Lb := s.op.headD (0, 0)
def add (s : Ps) (an : Bool) (t : List UInt8) (b : Bool) : Ps ⊕ Nat :=
  if s.its.length < 400 then .inl ⟨s.op, s.its ++ [⟨(s.its.length : Int) + 1, s.top.1, s.top.2, an, t, b⟩], s.con⟩ else .inr 4
def content (s : Ps) (k : Nat) (t : List UInt8) (b : Bool) : Ps ⊕ Nat :=
  if t.length ≤ 200 then (match add s false t b with | .inl u => .inl ⟨u.op, u.its, k⟩ | .inr e => .inr e) else .inr 4
def bare (s : Ps) (k : Nat) : Ps ⊕ Nat :=
  if 0 < s.con ∧ s.con + 1 = k then
    (match s.its.getLast? with
    | some x => if x.tx = [] then .inr 3 else .inl ⟨s.op, s.its.dropLast ++ [⟨x.id, x.lv, x.ct, x.an, x.tx, true⟩], s.con⟩
    | none => .inr 3)
  else .inr 3
def begins (n0 n1 : Int) (s : Ps) (w : List UInt8) : Ps ⊕ Nat :=
  match L.parse w with
  | none => .inr 3
  | some a => if O.fitsB n0 n1 a.1 a.2 && L.belowB s.top.1 s.top.2 a.1 a.2 then (if s.op.length ≤ 16 then .inl ⟨((a.1 : Int), a.2) :: s.op, s.its, s.con⟩ else .inr 4) else .inr 5
def mark (n0 n1 : Int) (k : Nat) (s : Ps) (t : List UInt8) : Ps ⊕ Nat :=
  if t = kEnd then (if 1 < s.op.length then .inl ⟨s.op.tail, s.its, s.con⟩ else .inr 3)
  else if t = kAnchor then add s true [] false
  else if t = kBare then bare s k
  else if kBegin <+: t then begins n0 n1 s (t.drop 9) else .inr 3
/-- What a line says. -/
def take (n0 n1 : Int) (k : Nat) (s : Ps) (x : List UInt8 × Bool) : Ps ⊕ Nat :=
  if kEsc <+: x.1 then content s k (x.1.drop 1) x.2
  else if kMark <+: x.1 then mark n0 n1 k s x.1
  else if kSign <+: x.1 then .inr 3
  else content s k x.1 x.2
/-- The lines of a text, from the i-th on: what they come to, or the number of the first that can't be, and why. -/
def takeAll (n0 n1 : Int) : Ps → Nat → List (List UInt8 × Bool) → Ps ⊕ (Nat × Nat)
  | s, _, [] => .inl s
  | s, i, x :: r => match take n0 n1 (i + 1) s x with
    | .inl t => takeAll n0 n1 t (i + 1) r
    | .inr e => .inr (i + 1, e)
def Ps.start (fl : Lb) : Ps := ⟨[fl], [], 0⟩
def readAll (n0 n1 : Int) (fl : Lb) (ls : List (List UInt8 × Bool)) : List It ⊕ (Nat × Nat) := match takeAll n0 n1 (Ps.start fl) 0 ls with
  | .inl s => if s.op.length = 1 then .inl s.its else .inr (0, 3)
  | .inr x => .inr x
def parse (n0 n1 : Int) (fl : Lb) (b : List UInt8) : List It ⊕ (Nat × Nat) := if 32768 < b.length then .inr (0, 4) else readAll n0 n1 fl (P.lines [] b)

/-- Which items may be. -/
def limitsB (l : List It) : Bool := decide (l.length ≤ 1073741824) && l.all fun x => decide (x.tx.length ≤ 200)
def labOk (fl : Lb) (x : It) : Bool := L.rightB x.lv && L.belowB fl.1 fl.2 x.lv x.ct
def labelledB (fl : Lb) (l : List It) : Bool := l.all (labOk fl)
def formOk (x : It) : Bool := !(x.an && (!x.tx.isEmpty || x.ba)) && !((x.ba && x.tx.isEmpty) || x.tx.contains 10)
def formedB (l : List It) : Bool := l.all formOk
def check (fl : Lb) (l : List It) : Nat := if limitsB l = false then 4 else if labelledB fl l = false then 5 else if formedB l = false then 3 else 0

/-- The regions that stay open ahead of an item of a label. -/
def popTo (a : Lb) : List Lb → List Lb
  | [] => []
  | t :: r => if L.belowB t.1 t.2 a.1 a.2 = true ∧ ¬ (r.length = 16 ∧ t ≠ a) then t :: r else popTo a r
def ends (op : List Lb) (a : Lb) : List (List UInt8) := List.replicate (op.length - (popTo a op).length) kEnd
def opened (op : List Lb) (a : Lb) : List Lb := if (popTo a op).head? = some a then popTo a op else a :: popTo a op
def opens (op : List Lb) (a : Lb) : List (List UInt8) := if (popTo a op).head? = some a then [] else [kBegin ++ L.print a.1 a.2]
def esc (t : List UInt8) : List UInt8 := if kSign <+: t then 64 :: t else t
def putLines (x : It) : List (List UInt8) := if x.an then [kAnchor] else esc x.tx :: (if x.ba then [kBare] else [])
def outOf : List Lb → List It → List (List UInt8)
  | op, [] => List.replicate (op.length - 1) kEnd
  | op, x :: r => ends op x.lb ++ (opens op x.lb ++ (putLines x ++ outOf (opened op x.lb) r))
def plain (ls : List (List UInt8)) : List (List UInt8 × Bool) := ls.map fun t => (t, false)
def printLines (fl : Lb) (l : List It) : List (List UInt8) := outOf [fl] l
def printBytes (fl : Lb) (l : List It) : List UInt8 := P.join (plain (printLines fl l))
def print (fl : Lb) (l : List It) : List UInt8 ⊕ Nat :=
  if check fl l ≠ 0 then .inr (check fl l) else if 400 < l.length then .inr 4 else if 32768 < (printBytes fl l).length then .inr 4 else .inl (printBytes fl l)
/-- The items with the IDs that come next. -/
def numbered : Nat → List It → List It
  | _, [] => []
  | k, x :: r => ⟨(k : Int) + 1, x.lv, x.ct, x.an, x.tx, x.ba⟩ :: numbered (k + 1) r

/-! ### Lists of lines -/
theorem takeAll_append (n0 n1 : Int) : ∀ (a : List (List UInt8 × Bool)) (s : Ps) (i : Nat) (b : List (List UInt8 × Bool)),
    takeAll n0 n1 s i (a ++ b) = (match takeAll n0 n1 s i a with | .inl t => takeAll n0 n1 t (i + a.length) b | .inr e => .inr e)
  | [], s, i, b => by simp [takeAll]
  | x :: r, s, i, b => by
    rw [List.cons_append, takeAll, takeAll]
    cases take n0 n1 (i + 1) s x with
    | inr e => rfl
    | inl t =>
      simp only [takeAll_append n0 n1 r t (i + 1) b, List.length_cons]
      rw [show i + 1 + r.length = i + (r.length + 1) by omega]
theorem plain_append (a b : List (List UInt8)) : plain (a ++ b) = plain a ++ plain b := by simp [plain]
theorem plain_length (a : List (List UInt8)) : (plain a).length = a.length := by simp [plain]
theorem join_plain : ∀ a : List (List UInt8), P.join (plain a) = a.flatMap fun t => t ++ [10]
  | [] => rfl
  | t :: r => by
    have ih := join_plain r
    unfold plain at ih ⊢
    rw [List.map_cons, P.join, ih]; simp
theorem right_plain : ∀ a : List (List UInt8), (∀ t ∈ a, (10 : UInt8) ∉ t) → P.right (plain a) = true
  | [], _ => rfl
  | t :: r, h => by
    have ih := right_plain r (fun x hx => h x (by simp [hx]))
    have ht := h t (by simp)
    unfold plain at ih ⊢
    rw [List.map_cons, P.right, ih]; simp [ht]
theorem bulk_plain : ∀ a : List (List UInt8), P.bulk (plain a) = (a.map fun t => t.length + 1).sum
  | [] => rfl
  | t :: r => by
    have ih := bulk_plain r
    unfold plain at ih ⊢
    rw [List.map_cons, P.bulk, ih]; simp

/-! ### The order of labels -/
theorem below_refl (a : Lb) : L.belowB a.1 a.2 a.1 a.2 = true := by simp [L.belowB]
theorem below_anti {a b : Lb} (h : L.belowB a.1 a.2 b.1 b.2 = true) (h' : L.belowB b.1 b.2 a.1 a.2 = true) : a = b := by
  simp only [L.belowB, Bool.and_eq_true, decide_eq_true_eq, beq_iff_eq] at h h'
  refine Prod.ext (by omega) ?_
  rw [← h'.2, Nat.or_comm]; exact h.2
theorem below_trans {a b c : Lb} (h : L.belowB a.1 a.2 b.1 b.2 = true) (h' : L.belowB b.1 b.2 c.1 c.2 = true) : L.belowB a.1 a.2 c.1 c.2 = true := by
  simp only [L.belowB, Bool.and_eq_true, decide_eq_true_eq, beq_iff_eq] at h h' ⊢
  refine ⟨by omega, ?_⟩
  rw [← h'.2, ← Nat.or_assoc, h.2]

/-! ### The regions -/
/-- The stack of a marked text: the floor's label last, all above it, not too many. -/
structure Stk (fl : Lb) (op : List Lb) : Prop where
  last : op.getLast? = some fl
  up : ∀ a ∈ op, L.belowB fl.1 fl.2 a.1 a.2 = true
  few : op.length ≤ 17
theorem Stk.ne {fl : Lb} {op : List Lb} (h : Stk fl op) : op ≠ [] := fun e => by have := h.last; rw [e] at this; cases this
theorem Stk.pos {fl : Lb} {op : List Lb} (h : Stk fl op) : 0 < op.length := List.length_pos_iff.2 h.ne
theorem Stk.start (fl : Lb) : Stk fl [fl] := ⟨rfl, fun a ha => by rw [List.mem_singleton.1 ha]; exact below_refl fl, by simp⟩
theorem Stk.tail {fl t : Lb} {r : List Lb} (h : Stk fl (t :: r)) (hr : r ≠ []) : Stk fl r := by
  refine ⟨?_, fun a ha => h.up a (by simp [ha]), by have := h.few; simp at this; omega⟩
  have := h.last
  cases r with
  | nil => exact absurd rfl hr
  | cons u r' => rwa [List.getLast?_cons_cons] at this
theorem Stk.push {fl a : Lb} {op : List Lb} (h : Stk fl op) (ha : L.belowB fl.1 fl.2 a.1 a.2 = true) (hn : op.length ≤ 16) : Stk fl (a :: op) := by
  refine ⟨?_, fun b hb => ?_, by simp; omega⟩
  · have := h.last
    cases op with
    | nil => cases this
    | cons u r => rwa [List.getLast?_cons_cons]
  · rcases List.mem_cons.1 hb with rfl | hb
    · exact ha
    · exact h.up b hb
/-- What popTo leaves. -/
structure Popped (fl a : Lb) (op p : List Lb) : Prop where
  stk : Stk fl p
  drop : p = op.drop (op.length - p.length)
  le : p.length ≤ op.length
  head : ∃ t r, p = t :: r ∧ L.belowB t.1 t.2 a.1 a.2 = true ∧ ¬ (r.length = 16 ∧ t ≠ a)
theorem popped {fl a : Lb} (ha : L.belowB fl.1 fl.2 a.1 a.2 = true) : ∀ {op : List Lb}, Stk fl op → Popped fl a op (popTo a op)
  | [], h => absurd rfl h.ne
  | t :: r, h => by
    rw [popTo]
    split
    · next hc => exact ⟨h, by simp, Nat.le_refl _, t, r, rfl, hc.1, hc.2⟩
    · next hc =>
      by_cases hr : r = []
      · subst hr
        have := h.last
        simp at this
        subst this
        exact absurd ⟨ha, by simp⟩ hc
      · have ih := popped ha (h.tail hr)
        have hle := ih.le
        refine ⟨ih.stk, ?_, by simp; omega, ih.head⟩
        rw [show (t :: r).length - (popTo a r).length = (r.length - (popTo a r).length) + 1 by simp; omega, List.drop_succ_cons]
        exact ih.drop
theorem opened_stk {fl a : Lb} {op : List Lb} (ha : L.belowB fl.1 fl.2 a.1 a.2 = true) (h : Stk fl op) : Stk fl (opened op a) := by
  have hp := popped ha h
  obtain ⟨t, r, he, hb, hn⟩ := hp.head
  unfold opened
  split
  · exact hp.stk
  · next hne =>
    refine hp.stk.push ha ?_
    have hta : t ≠ a := fun e => hne (by rw [he, e]; rfl)
    have := hp.stk.few
    rw [he] at this ⊢
    simp at this ⊢
    by_cases e : r.length = 16
    · exact absurd ⟨e, hta⟩ hn
    · omega
theorem opened_head (op : List Lb) (a : Lb) : (opened op a).headD (0, 0) = a := by
  unfold opened
  split
  · next h =>
    cases hp : popTo a op with
    | nil => rw [hp] at h; cases h
    | cons t r => rw [hp] at h; simpa using h
  · rfl

/-! ### The lines of items, read -/
theorem take_end (n0 n1 : Int) (k : Nat) (s : Ps) (h : 1 < s.op.length) : take n0 n1 k s (kEnd, false) = .inl ⟨s.op.tail, s.its, s.con⟩ := by
  have h1 : ¬ kEsc <+: kEnd := by decide
  have h2 : kMark <+: kEnd := by decide
  rw [take, if_neg h1, if_pos h2, mark, if_pos rfl, if_pos h]
theorem take_anchor (n0 n1 : Int) (k : Nat) (s : Ps) : take n0 n1 k s (kAnchor, false) = add s true [] false := by
  have h1 : ¬ kEsc <+: kAnchor := by decide
  have h2 : kMark <+: kAnchor := by decide
  have h3 : ¬ kAnchor = kEnd := by decide
  rw [take, if_neg h1, if_pos h2, mark, if_neg h3, if_pos rfl]
theorem take_bare (n0 n1 : Int) (k : Nat) (s : Ps) : take n0 n1 k s (kBare, false) = bare s k := by
  have h1 : ¬ kEsc <+: kBare := by decide
  have h2 : kMark <+: kBare := by decide
  have h3 : ¬ kBare = kEnd := by decide
  have h4 : ¬ kBare = kAnchor := by decide
  rw [take, if_neg h1, if_pos h2, mark, if_neg h3, if_neg h4, if_pos rfl]
theorem take_begin (n0 n1 : Int) (k : Nat) (s : Ps) (w : List UInt8) : take n0 n1 k s (kBegin ++ w, false) = begins n0 n1 s w := by
  have h1 : ¬ kEsc <+: kBegin ++ w := by
    show ¬ [64, 64, 64] <+: 64 :: 64 :: 32 :: _
    simp
  have h2 : kMark <+: kBegin ++ w := ⟨[98, 101, 103, 105, 110, 32] ++ w, by simp [kMark, kBegin]⟩
  have h3 : ¬ kBegin ++ w = kEnd := by simp [kBegin, kEnd]
  have h4 : ¬ kBegin ++ w = kAnchor := by simp [kBegin, kAnchor]
  have h5 : ¬ kBegin ++ w = kBare := by simp [kBegin, kBare]
  have h6 : kBegin <+: kBegin ++ w := List.prefix_append _ _
  rw [take, if_neg h1, if_pos h2, mark, if_neg h3, if_neg h4, if_neg h5, if_pos h6]
  rfl
theorem take_line (n0 n1 : Int) (k : Nat) (s : Ps) (t : List UInt8) (b : Bool) : take n0 n1 k s (esc t, b) = content s k t b := by
  unfold esc
  by_cases h : kSign <+: t
  · rw [if_pos h]
    have h1 : kEsc <+: 64 :: t := by
      obtain ⟨r, hr⟩ := h
      exact ⟨r, by rw [← hr]; rfl⟩
    rw [take, if_pos h1]
    rfl
  · rw [if_neg h]
    have h1 : ¬ kEsc <+: t := fun ⟨r, hr⟩ => h ⟨64 :: r, by rw [← hr]; rfl⟩
    have h2 : ¬ kMark <+: t := fun ⟨r, hr⟩ => h ⟨32 :: r, by rw [← hr]; rfl⟩
    rw [take, if_neg h1, if_neg h2, if_neg h]
theorem takeAll_ends (n0 n1 : Int) : ∀ (m : Nat) (s : Ps) (i : Nat), m < s.op.length → takeAll n0 n1 s i (plain (List.replicate m kEnd)) = .inl ⟨s.op.drop m, s.its, s.con⟩
  | 0, s, i, _ => by simp [plain, takeAll]
  | m + 1, s, i, h => by
    rw [List.replicate_succ]
    show takeAll n0 n1 s i ((kEnd, false) :: plain (List.replicate m kEnd)) = _
    rw [takeAll, take_end n0 n1 (i + 1) s (by omega)]
    simp only
    rw [takeAll_ends n0 n1 m _ _ (by simp; omega)]
    simp
theorem takeAll_one {n0 n1 : Int} {s t : Ps} {i : Nat} {x : List UInt8} (h : take n0 n1 (i + 1) s (x, false) = .inl t) : takeAll n0 n1 s i (plain [x]) = .inl t := by
  show takeAll n0 n1 s i [(x, false)] = _
  rw [takeAll, h]; rfl
/-- Ahead of an item its region is opened. -/
theorem takeAll_enter {n0 n1 : Int} {fl a : Lb} {s : Ps} (i : Nat) (hs : Stk fl s.op) (hr : L.rightB a.1 = true) (hb : L.belowB fl.1 fl.2 a.1 a.2 = true) (hc : a.2 < 18446744073709551616) (hf : O.fitsB n0 n1 a.1 a.2 = true ∨ a = fl) :
    takeAll n0 n1 s i (plain (ends s.op a ++ opens s.op a)) = .inl ⟨opened s.op a, s.its, s.con⟩ := by
  have hp := popped hb hs
  obtain ⟨t, r, he, htb, hn⟩ := hp.head
  have hpl : 0 < (popTo a s.op).length := by rw [he]; simp
  have hle := hp.le
  rw [plain_append, takeAll_append]
  unfold ends
  rw [takeAll_ends n0 n1 _ s i (by omega), ← hp.drop]
  simp only
  unfold opens opened
  by_cases hh : (popTo a s.op).head? = some a
  · rw [if_pos hh, if_pos hh]; rfl
  · rw [if_neg hh, if_neg hh]
    have hta : t ≠ a := fun e => hh (by rw [he, e]; rfl)
    have hfit : O.fitsB n0 n1 a.1 a.2 = true := by
      rcases hf with hf | hf
      · exact hf
      · subst hf
        exact absurd (below_anti htb (hp.stk.up t (by rw [he]; simp))) hta
    refine takeAll_one ?_
    have hlt : (popTo a s.op).length ≤ 16 := by
      have := hp.stk.few
      rw [he] at this ⊢
      simp at this ⊢
      by_cases e : r.length = 16
      · exact absurd ⟨e, hta⟩ hn
      · omega
    rw [take_begin, begins, L.parse_print a.1 a.2 hc hr]
    have h0 : 0 ≤ a.1 := by simp [L.rightB] at hr; omega
    have e1 : ((a.1.toNat : Nat) : Int) = a.1 := Int.toNat_of_nonneg h0
    have htop : (Ps.mk (popTo a s.op) s.its s.con).top = t := by simp [Ps.top, he]
    simp only [htop, e1, hfit, htb, Bool.and_self, if_true, if_pos hlt]
theorem last_snoc (l : List It) (x : It) : (l ++ [x]).getLast? = some x := by simp
theorem drop_snoc (l : List It) (x : It) : (l ++ [x]).dropLast = l := by simp
/-- The lines of an item, read where its region is open. -/
theorem takeAll_put {n0 n1 : Int} {s : Ps} {x : It} (i : Nat) (ht : s.op.headD (0, 0) = x.lb) (hn : s.its.length < 400) (hx : x.tx.length ≤ 200) (hf : formOk x = true) :
    ∃ con, takeAll n0 n1 s i (plain (putLines x)) = .inl ⟨s.op, s.its ++ [⟨(s.its.length : Int) + 1, x.lv, x.ct, x.an, x.tx, x.ba⟩], con⟩ := by
  have htop : s.top = (x.lv, x.ct) := ht
  obtain ⟨id, lv, ct, an, tx, ba⟩ := x
  simp only at hx htop ⊢
  unfold putLines
  simp only
  unfold formOk at hf
  cases an with
  | true =>
    simp at hf
    obtain ⟨⟨rfl, rfl⟩, -⟩ := hf
    refine ⟨s.con, takeAll_one ?_⟩
    rw [take_anchor, add, if_pos hn, htop]
  | false =>
    have hcon : ∀ b, take n0 n1 (i + 1) s (esc tx, b) = .inl ⟨s.op, s.its ++ [⟨(s.its.length : Int) + 1, lv, ct, false, tx, b⟩], i + 1⟩ := fun b => by
      rw [take_line, content, if_pos hx, add, if_pos hn, htop]
    cases ba with
    | false => exact ⟨i + 1, takeAll_one (hcon false)⟩
    | true =>
      simp at hf
      refine ⟨i + 1, ?_⟩
      show takeAll n0 n1 s i ((esc tx, false) :: plain [kBare]) = _
      rw [takeAll, hcon false]
      simp only
      refine takeAll_one ?_
      rw [take_bare, bare, if_pos ⟨by simp, by simp⟩, last_snoc]
      simp only
      rw [if_neg hf.1, drop_snoc]
theorem takeAll_out (n0 n1 : Int) (fl : Lb) : ∀ (l : List It) (s : Ps) (i : Nat), Stk fl s.op → s.its.length + l.length ≤ 400 → (∀ x ∈ l, labOk fl x = true ∧ x.tx.length ≤ 200 ∧ formOk x = true ∧ x.ct < 18446744073709551616 ∧ (O.fitsB n0 n1 x.lv x.ct = true ∨ x.lb = fl)) →
    ∃ con, takeAll n0 n1 s i (plain (outOf s.op l)) = .inl ⟨[fl], s.its ++ numbered s.its.length l, con⟩
  | [], s, i, hs, hn, h => by
    refine ⟨s.con, ?_⟩
    have hp := hs.pos
    rw [outOf, takeAll_ends n0 n1 _ s i (by omega)]
    have e : s.op.drop (s.op.length - 1) = [fl] := by
      have := hs.last
      rw [List.getLast?_eq_getElem?, List.getElem?_eq_getElem (by omega)] at this
      rw [List.drop_eq_getElem_cons (by omega), List.drop_eq_nil_of_le (by omega)]
      simpa using this
    rw [e]; simp [numbered]
  | x :: r, s, i, hs, hn, h => by
    obtain ⟨h1, h2, h3, h4, h5⟩ := h x (by simp)
    simp only [labOk, Bool.and_eq_true] at h1
    simp at hn
    rw [outOf, ← List.append_assoc, plain_append, takeAll_append, takeAll_enter i hs h1.1 h1.2 h4 h5]
    simp only
    rw [plain_append (putLines x), takeAll_append]
    obtain ⟨con, hc⟩ := takeAll_put (n0 := n0) (n1 := n1) (s := ⟨opened s.op x.lb, s.its, s.con⟩) (i + (plain (ends s.op x.lb ++ opens s.op x.lb)).length) (opened_head s.op x.lb) (by simp; omega) h2 h3
    rw [hc]
    simp only
    obtain ⟨con2, hc2⟩ := takeAll_out n0 n1 fl r ⟨opened s.op x.lb, s.its ++ [⟨(s.its.length : Int) + 1, x.lv, x.ct, x.an, x.tx, x.ba⟩], con⟩ (i + (plain (ends s.op x.lb ++ opens s.op x.lb)).length + (plain (putLines x)).length) (opened_stk h1.2 hs) (by simp; omega) (fun y hy => h y (by simp [hy]))
    refine ⟨con2, hc2.trans ?_⟩
    simp [numbered]
end Go.Proofs.YtlggoplffhdkhaaDoor.I

namespace Go.Proofs.YtlggoplffhdkhaaDoor.T
open Go.RowKit

/-- May a text be a name? -/
theorem name_long (s : ByteArray) (h : s.size < 1 ∨ 64 < s.size) : P.name s.data.toList = false := by
  unfold P.name; rw [← Lib.size_eq]
  rcases h with h | h
  · rw [decide_eq_false (by omega)]; rfl
  · rw [decide_eq_false (p := s.size ≤ 64) (by omega), Bool.and_false]; rfl
theorem name_all (s : ByteArray) (h1 : 1 ≤ s.size) (h2 : s.size ≤ 64) : P.name s.data.toList = s.data.toList.all fun c => decide (33 ≤ c.toNat) && decide (c.toNat ≤ 126) := by
  unfold P.name; rw [← Lib.size_eq, decide_eq_true h1, decide_eq_true h2]; rfl
theorem all_bad (s : ByteArray) (k : Nat) (hk : k < s.size) (h : (s[k].toNat : Int) < 33 ∨ 126 < (s[k].toNat : Int)) : (s.data.toList.all fun c => decide (33 ≤ c.toNat) && decide (c.toNat ≤ 126)) = false := by
  have hl : k < s.data.toList.length := by rw [← Lib.size_eq]; exact hk
  rw [List.all_eq_false]
  refine ⟨s.data.toList[k], List.getElem_mem hl, ?_⟩
  rw [byte s k hk hl]
  simp only [Bool.and_eq_true, decide_eq_true_eq, not_and]
  omega

end Go.Proofs.YtlggoplffhdkhaaDoor.T

namespace Go.Proofs.YtlggoplffhdkhaaDoor.T
open Go.RowKit

theorem list_data (l : List UInt8) : (⟨l.toArray⟩ : ByteArray).data.toList = l := by simp
theorem list_size (l : List UInt8) : (⟨l.toArray⟩ : ByteArray).size = l.length := by simp [ByteArray.size]
theorem str_eta (s : ByteArray) : (⟨s.data.toList.toArray⟩ : ByteArray) = s := by cases s; simp

theorem number_is (s : ByteArray) (b : Nat) (w : World) (hs : s.size ≤ maxLen) (h : P.number s.data.toList = some b) :
    Calls Tryd.prog 70 #[.string s] w fun e w' => e = .returned (.tuple #[.int .i64 b, .bool true]) ∧ w = w' := by
  have := number_any s w hs
  rwa [h, numVal_some] at this
theorem number_not (s : ByteArray) (w : World) (hs : s.size ≤ maxLen) (h : P.number s.data.toList = none) :
    Calls Tryd.prog 70 #[.string s] w fun e w' => e = .returned (.tuple #[.int .i64 0, .bool false]) ∧ w = w' := by
  have := number_any s w hs
  rwa [h, numVal_none] at this

def Dec (n : Int) (s : ByteArray) : Prop := ∀ w : World, Tab w → Calls Tryd.prog 49 #[.int .i64 n] w fun e w' => e = .returned (.string s) ∧ Below w.heap.size w w'
def Num (s : ByteArray) (n : Int) (is : Bool) : Prop := ∀ w : World, Calls Tryd.prog 70 #[.string s] w fun e w' => e = .returned (.tuple #[.int .i64 n, .bool is]) ∧ w = w'
theorem Dec.call {n : Int} {s : ByteArray} (h : Dec n s) (w : World) (ht : Tab w) : Calls Tryd.prog 49 #[.int .i64 n] w fun e w' => e = .returned (.string s) ∧ Below w.heap.size w w' := h w ht
theorem Num.call {n : Int} {s : ByteArray} {is : Bool} (h : Num s n is) (w : World) : Calls Tryd.prog 70 #[.string s] w fun e w' => e = .returned (.tuple #[.int .i64 n, .bool is]) ∧ w = w' := h w
theorem dec_is (n : Int) (h0 : -9223372036854775808 ≤ n) (h1 : n ≤ 9223372036854775807) : Dec n ⟨(P.decimal n).toArray⟩ := fun w ht => decimal_any n w h0 h1 ht
end Go.Proofs.YtlggoplffhdkhaaDoor.T

namespace Go.Proofs.YtlggoplffhdkhaaDoor.O
open Go.RowKit
open T

/-- The fault of a line. -/
def fault : List PanicEntry := [{ v := .iface 32 (.int .i64 3), recovered := false }]
/-- A policy's value. -/
abbrev polA (n0 n1 n2 n3 n4 n5 : Int) (hid : ByteArray) (uv fv : Value) : Value :=
  .agg #[.int .i64 n0, .int .i64 n1, .int .i64 n2, .int .i64 n3, .int .i64 n4, .int .i64 n5, .string hid, uv, fv]

theorem two_new (w : World) (a b : Obj) : Below w.heap.size w ((w.alloc a).alloc b) := ((Below.refl _ _).alloc (Nat.le_refl _) _).alloc (by simp) _
theorem shr_is (k : Nat) (n : Int) (hk : k < 18446744073709551616) (_hn : 0 ≤ n) : ((k : Int) / 2 ^ min n.toNat 64 == 0) = decide (k < 2 ^ n.toNat) := by
  rw [show (2 : Int) ^ min n.toNat 64 = ((2 ^ min n.toNat 64 : Nat) : Int) by simp, ← Int.natCast_ediv]
  rw [Bool.eq_iff_iff, beq_iff_eq, decide_eq_true_iff]
  have hp : 0 < 2 ^ min n.toNat 64 := Nat.pow_pos (by omega)
  have e : k / 2 ^ min n.toNat 64 = 0 ↔ k < 2 ^ min n.toNat 64 := Nat.div_eq_zero_iff_lt hp
  rw [show (((k / 2 ^ min n.toNat 64 : Nat) : Int) = 0) = (k / 2 ^ min n.toNat 64 = 0) by simp only [eq_iff_iff]; omega, e]
  rcases Nat.lt_or_ge n.toNat 64 with h | h
  · rw [Nat.min_eq_left (by omega)]
  · rw [Nat.min_eq_right h]
    have := Nat.pow_le_pow_right (n := 2) (by omega) h
    omega

/-- What numbers lays: of each of the six its word, where it is kept, and its bounds. -/
def numCells (pb po : Nat) : Array Value := #[.string ⟨#[108, 101, 118, 101, 108, 115]⟩, .pointer (some ⟨pb, po, none⟩), .int .i64 1, .int .i64 16, .string ⟨#[99, 97, 116, 115]⟩, .pointer (some ⟨pb, po + 1, none⟩), .int .i64 0, .int .i64 64, .string ⟨#[108, 105, 110, 101, 115]⟩, .pointer (some ⟨pb, po + 2, none⟩), .int .i64 1, .int .i64 400, .string ⟨#[99, 111, 109, 109, 105, 116, 115]⟩, .pointer (some ⟨pb, po + 3, none⟩), .int .i64 0, .int .i64 64, .string ⟨#[108, 111, 103]⟩, .pointer (some ⟨pb, po + 4, none⟩), .int .i64 1, .int .i64 200, .string ⟨#[99, 111, 110, 116, 101, 120, 116]⟩, .pointer (some ⟨pb, po + 5, none⟩), .int .i64 0, .int .i64 20]
theorem below_drewN {B : Nat} {w w' : World} (h : Below B w w') (n : Nat) : Below B w (w'.drewN n) := ⟨h.1, h.2, h.3, h.4, h.5⟩
theorem drew_alloc (w : World) (o : Obj) : (w.alloc o).drew.heap[w.heap.size]? = some o ∧ Below w.heap.size w (w.alloc o).drew ∧ (w.alloc o).drew.heap.size = w.heap.size + 1 :=
  ⟨heap_alloc_new w o, ((Below.refl _ _).alloc (Nat.le_refl _) _).drew, by simp⟩
/-- May a number be one of the six? -/
def inB (lo hi n : Int) : Bool := decide (lo ≤ n) && decide (n ≤ hi)
theorem plain_short (s : ByteArray) (h : s.size < 1 ∨ 200 < s.size) : plainB s.data.toList = false := by
  unfold plainB; rw [← Lib.size_eq]
  rcases h with h | h
  · rw [decide_eq_false (by omega)]; rfl
  · rw [decide_eq_false (p := s.size ≤ 200) (by omega), Bool.and_false]; rfl
theorem plain_all (s : ByteArray) (h1 : 1 ≤ s.size) (h2 : s.size ≤ 200) : plainB s.data.toList = s.data.toList.all fun c => decide (32 ≤ c.toNat) && decide (c.toNat ≤ 126) := by
  unfold plainB; rw [← Lib.size_eq, decide_eq_true h1, decide_eq_true h2]; rfl
theorem plain_bad (s : ByteArray) (k : Nat) (hk : k < s.size) (h : (s[k].toNat : Int) < 32 ∨ 126 < (s[k].toNat : Int)) : (s.data.toList.all fun c => decide (32 ≤ c.toNat) && decide (c.toNat ≤ 126)) = false := by
  have hl : k < s.data.toList.length := by rw [← Lib.size_eq]; exact hk
  rw [List.all_eq_false]
  refine ⟨s.data.toList[k], List.getElem_mem hl, ?_⟩
  rw [byte s k hk hl]
  simp only [Bool.and_eq_true, decide_eq_true_eq, not_and]
  omega
theorem plain_good (s : ByteArray) (h : ∀ j (hj : j < s.data.toList.length), j < s.size → 32 ≤ s.data.toList[j].toNat ∧ s.data.toList[j].toNat ≤ 126) : (s.data.toList.all fun c => decide (32 ≤ c.toNat) && decide (c.toNat ≤ 126)) = true := by
  rw [List.all_eq_true]
  intro c hc
  obtain ⟨j, hj, rfl⟩ := List.getElem_of_mem hc
  have := h j hj (by rw [← Lib.size_eq] at hj; omega)
  rw [decide_eq_true this.1, decide_eq_true this.2]; rfl

end Go.Proofs.YtlggoplffhdkhaaDoor.O

namespace Go.Proofs.YtlggoplffhdkhaaDoor.I
set_option linter.unusedVariables false
set_option linter.unusedSimpArgs false
open Go.RowKit
open T

/-- The cells of labels. -/
def labCells (ls : List Lb) : List Value := ls.flatMap fun a => [.int .i64 a.1, .int .u64 (a.2 : Int)]
theorem labCells_snoc (ls : List Lb) (a : Lb) : labCells (ls ++ [a]) = labCells ls ++ [.int .i64 a.1, .int .u64 (a.2 : Int)] := by simp [labCells]
theorem labCells_length (ls : List Lb) : (labCells ls).length = ls.length * 2 := by
  induction ls with
  | nil => rfl
  | cons a r ih => simp only [labCells, List.flatMap_cons, List.length_append, List.length_cons, List.length_nil] at ih ⊢; omega
theorem labCells_at : ∀ (ls : List Lb) (j : Nat) (h : j < ls.length), (labCells ls)[j * 2]? = some (.int .i64 ls[j].1) ∧ (labCells ls)[j * 2 + 1]? = some (.int .u64 (ls[j].2 : Int))
  | a :: r, 0, _ => by simp [labCells]
  | a :: r, j + 1, h => by
    have ih := labCells_at r j (by simpa using h)
    have e : labCells (a :: r) = .int .i64 a.1 :: .int .u64 (a.2 : Int) :: labCells r := by simp [labCells]
    rw [e, show (j + 1) * 2 = j * 2 + 1 + 1 by omega]
    simpa using ih

/-- A row of the call's own, told by its cells: block g, capacity cap, its first n elements hold xs; all its cells are there and may be written. -/
structure Row (w : World) (base : Nat) (size g n cap : Nat) (xs : List Value) : Prop where
  base : base ≤ g
  lt : g < w.heap.size
  le : n ≤ cap
  max : cap ≤ maxLen
  len : xs.length = n * size
  holds : ∀ (j : Nat) u, xs[j]? = some u → w.cell? ⟨g, j, none⟩ = some u
  there : ∀ j, j < cap * size → (w.cell? ⟨g, j, none⟩).isSome = true ∧ w.frozen? ⟨g, j, none⟩ = false
theorem Row.kept {w w' : World} {base size g n cap : Nat} {xs : List Value} (h : Row w base size g n cap xs) (hs : w.heap.size ≤ w'.heap.size) (hb : w'.heap[g]? = w.heap[g]?) : Row w' base size g n cap xs :=
  ⟨h.base, Nat.lt_of_lt_of_le h.lt hs, h.le, h.max, h.len, fun j u hu => (World.cell?_of_block (a := ⟨g, j, none⟩) hb).trans (h.holds j u hu), fun j hj => by
    rw [World.cell?_of_block (a := ⟨g, j, none⟩) hb, World.frozen?_of_block (a := ⟨g, j, none⟩) hb]; exact h.there j hj⟩
theorem Row.below {w w' : World} {base size g n cap : Nat} {xs : List Value} (h : Row w base size g n cap xs) (hb : Below w.heap.size w w') : Row w' base size g n cap xs :=
  h.kept hb.size (hb.block g h.lt)
theorem Row.grown {w w' : World} {base size g n cap : Nat} {xs : List Value} {row : Option Nat} (h : Row w base size g n cap xs) (hg : w.grownBy w' row) (hne : some g ≠ row) : Row w' base size g n cap xs :=
  h.kept hg.size (hg.block g h.lt hne)
theorem Row.more {w : World} {base base' size g n cap : Nat} {xs : List Value} (h : Row w base size g n cap xs) (hb : base' ≤ base) : Row w base' size g n cap xs :=
  ⟨Nat.le_trans hb h.base, h.lt, h.le, h.max, h.len, h.holds, h.there⟩
/-- The first of its elements, with no room behind them. -/
theorem Row.cut {w : World} {base size g n cap m : Nat} {xs : List Value} (h : Row w base size g n cap xs) (hm : m ≤ n) : Row w base size g m m (xs.take (m * size)) := by
  have h1 : m * size ≤ n * size := Nat.mul_le_mul_right _ hm
  have h2 : n * size ≤ cap * size := Nat.mul_le_mul_right _ h.le
  refine ⟨h.base, h.lt, Nat.le_refl _, by have := h.max; have := h.le; omega, by rw [List.length_take, h.len]; omega, fun j u hu => ?_, fun j hj => h.there j (by omega)⟩
  rw [List.getElem?_take] at hu
  split at hu
  · exact h.holds j u hu
  · cases hu
theorem row_of_block {w : World} {base size g : Nat} {t : TypeId} {cs : Array Value} {n : Nat} (hg : w.heap[g]? = some (.cells cs t (0, 0))) (hb : base ≤ g) (hs : cs.size = n * size) (hn : n ≤ maxLen) : Row w base size g n n cs.toList := by
  refine ⟨hb, L.blk_lt hg, Nat.le_refl _, hn, by rw [Array.length_toList, hs], fun j u hu => ?_, fun j hj => ⟨?_, L.blk_free hg j⟩⟩
  · rw [L.blk_cell hg]; simpa using hu
  · rw [L.blk_cell hg, Array.getElem?_eq_getElem (by omega)]; rfl

theorem setCells_size (b : Nat) : ∀ (vs : List Value) (o : Nat) (w : World), (w.setCells b o vs).heap.size = w.heap.size
  | [], _, _ => rfl
  | v :: r, o, w => by rw [World.setCells, setCells_size b r (o + 1)]; simp
theorem setCells_tape (b : Nat) : ∀ (vs : List Value) (o : Nat) (w : World), (w.setCells b o vs).tape = w.tape
  | [], _, _ => rfl
  | v :: r, o, w => by rw [World.setCells, setCells_tape b r (o + 1)]; rfl
/-- One append onto such a row. -/
theorem run_append_row {P : Program} {w : World} (t ty e : TypeId) (i : TypeInfo) (z : Value) (size bytes : Nat) (ht : P.underlying t = some (.slice e)) (hi : P.info? e = some i) (hz : i.zero = some z)
    (hsize : i.size = size) (hby : i.bytes = bytes) (hzs : z.cells.size = size) (hsz : 0 < size) {base g n cap : Nat} {xs : List Value} (h : Row w base size g n cap xs)
    (ad : Addr) (c : Nat) (news : List Value) (hl : news.length = size) (hnews : ∀ j u, news[j]? = some u → w.cell? (ad.add j) = some u) (h1 : ∀ u ∈ news, u.oneCell' = true)
    (h63 : n + 1 ≤ maxLen) (hbytes : (n + 1) * bytes ≤ 140737488355328) (hbase : base ≤ w.heap.size) :
    ∃ g' cap' w', (Builtin.append_ #[t, t] ty #[.slice (some ⟨g, 0, none⟩) n cap, .slice (some ad) 1 c]).run P w = .ok (.slice (some ⟨g', 0, none⟩) (n + 1) cap') w' ∧
      Row w' base size g' (n + 1) cap' (xs ++ news) ∧ w.grownBy w' (some g) ∧ (g' = g ∨ g' = w.heap.size) := by
  subst hsize
  subst hby
  have hs : Src P i.size t (.slice (some ad) 1 c) 1 news w := Src.ofSlice w ht ad 1 c news (by omega) hnews h1
  have hxl := h.len
  have hL : (xs ++ news).length = (n + 1) * i.size := by rw [List.length_append, hxl, hl, Nat.add_mul]; omega
  by_cases hfit : n + 1 ≤ cap
  · have hrc : (n + 1) * i.size ≤ cap * i.size := Nat.mul_le_mul_right _ hfit
    rw [Nat.add_mul] at hrc
    have hsome : ∀ j, j < news.length → (w.cell? ⟨g, 0 + n * i.size + j, none⟩).isSome = true := fun j hj => by rw [Nat.zero_add]; exact (h.there _ (by omega)).1
    have hrun := run_append_room_src (P := P) w t t ty e i ht hi g 0 n cap (.slice (some ad) 1 c) 1 news hs hfit hsome (fun j hj => by rw [Nat.zero_add]; exact (h.there _ (by omega)).2)
    have hsz' : (w.setCells g (0 + n * i.size) news).heap.size = w.heap.size := setCells_size _ _ _ _
    refine ⟨g, cap, _, hrun, ⟨h.base, by rw [hsz']; exact h.lt, hfit, h.max, hL, fun j u hu => ?_, fun j hj => ⟨?_, (World.frozen?_setCells g _ _ _ _).trans (h.there j hj).2⟩⟩, ⟨?_, ?_, ?_, by rw [hsz']; exact Nat.le_refl _, fun k hk hne => ?_⟩, .inl rfl⟩
    · by_cases hj : j < xs.length
      · rw [World.cell?_setCells_out g _ _ _ _ (fun _ _ => Or.inl (by show j < 0 + n * i.size; omega))]
        rw [List.getElem?_append_left hj] at hu
        exact h.holds j u hu
      · have hjl : j < (xs ++ news).length := (List.getElem?_eq_some_iff.1 hu).1
        rw [List.length_append] at hjl
        have := World.cell?_setCells_in g news (0 + n * i.size) w hsome (j - xs.length) (by omega)
        rw [show 0 + n * i.size + (j - xs.length) = j by omega] at this
        rw [this]
        rw [List.getElem?_append_right (by omega)] at hu
        rw [List.getElem?_eq_getElem (by omega)] at hu
        exact hu
    · by_cases hin : n * i.size ≤ j ∧ j < n * i.size + news.length
      · have := World.cell?_setCells_in g news (0 + n * i.size) w hsome (j - n * i.size) (by omega)
        rw [show 0 + n * i.size + (j - n * i.size) = j by omega] at this
        rw [this]; rfl
      · rw [World.cell?_setCells_out g _ _ _ _ (fun _ _ => by show j < 0 + n * i.size ∨ 0 + n * i.size + news.length ≤ j; omega)]
        exact (h.there j hj).1
    · exact (World.keptBut_setCells g (may := fun _ => True) news _ w (fun _ _ => trivial)).1
    · exact setCells_tape _ _ _ _
    · exact (World.keptBut_setCells g (may := fun _ => True) news _ w (fun _ _ => trivial)).2.1
    · exact (World.keptBut_setCells g (may := fun p => p.block = g) news _ w (fun _ _ => rfl)).block hk (fun _ hp e => hne (by rw [← e, hp]))
  · have hold : (Builtin.firstCells i.size n (.slice (some ⟨g, 0, none⟩) n cap)).run P w.drew = .ok xs.toArray w.drew :=
      run_firstCells_some w.drew i.size n ⟨g, 0, none⟩ n cap xs hxl (fun j u hu => by
        rw [Addr.add_lit, Nat.zero_add]
        exact h.holds j u hu)
    have hrun := run_append_grow_src (P := P) w t t ty e i z ht hi hz (some ⟨g, 0, none⟩) n cap xs hold (.slice (some ad) 1 c) 1 news hs (by omega) (by simp only [maxLen] at h63; omega) (growslice_fits (by omega) hbytes)
    have hge := grownCap_ge w (n + 1) cap e
    have hcm := grownCap_le_maxLen w (n + 1) cap e h63
    generalize hgc : grownCap w (n + 1) cap e = gc at *
    have hblk : ∀ k, k < w.heap.size → (w.drew.alloc (.cells ((xs ++ news).toArray ++ Builtin.zeroCells z.cells (gc - (n + 1))) e)).heap[k]? = w.heap[k]? := fun k hk => Below.heap_alloc w.drew _ k hk
    have hnew : (w.drew.alloc (.cells ((xs ++ news).toArray ++ Builtin.zeroCells z.cells (gc - (n + 1))) e)).heap[w.heap.size]? = some (.cells ((xs ++ news).toArray ++ Builtin.zeroCells z.cells (gc - (n + 1))) e (0, 0)) := heap_alloc_new w.drew _
    have hsz2 : ((xs ++ news).toArray ++ Builtin.zeroCells z.cells (gc - (n + 1))).size = gc * i.size := by
      rw [Array.size_append, List.size_toArray, hL, size_zeroCells, hzs, ← Nat.add_mul]
      congr 1
      omega
    refine ⟨w.heap.size, gc, _, hrun, ⟨hbase, L.blk_lt hnew, by omega, hcm, hL, fun j u hu => ?_, fun j hj => ⟨?_, L.blk_free hnew j⟩⟩, ⟨rfl, rfl, rfl, by simp, fun k hk _ => hblk k hk⟩, .inr rfl⟩
    · rw [L.blk_cell hnew, Array.getElem?_append_left (by rw [List.size_toArray]; exact (List.getElem?_eq_some_iff.1 hu).1), List.getElem?_toArray]
      exact hu
    · rw [L.blk_cell hnew, Array.getElem?_eq_getElem (by rw [hsz2]; exact hj)]; rfl

theorem wp_append_row {P : Program} (w : World) {o : Oper} {a : Act} {K : Act → World → Prop} {Q : Exit → Act → World → Prop} (s x : Operand) (t : TypeId)
    (ho : o.op = .call { callee := .builtin .append, args := #[s, x], argTypes := #[t, t] })
    (base : Nat) (e : TypeId) (i : TypeInfo) (z : Value) (size bytes : Nat) (ht : P.underlying t = some (.slice e)) (hi : P.info? e = some i) (hz : i.zero = some z)
    (hsize : i.size = size) (hby : i.bytes = bytes) (hzs : z.cells.size = size) (hsz : 0 < size)
    (g n cap : Nat) (xs : List Value) (hs : a.eval s = .slice (some ⟨g, 0, none⟩) n cap) (hrow : Row w base size g n cap xs)
    (ad : Addr) (c : Nat) (news : List Value) (hx : a.eval x = .slice (some ad) 1 c) (hl : news.length = size) (hnews : ∀ j u, news[j]? = some u → w.cell? (ad.add j) = some u) (h1 : ∀ u ∈ news, u.oneCell' = true)
    (h63 : n + 1 ≤ maxLen) (hbytes : (n + 1) * bytes ≤ 140737488355328) (hbase : base ≤ w.heap.size)
    (h : ∀ g' cap' w', Row w' base size g' (n + 1) cap' (xs ++ news) → w.grownBy w' (some g) → (g' = g ∨ g' = w.heap.size) → K (a.put o.dst (.slice (some ⟨g', 0, none⟩) (n + 1) cap')) w') : o.wp P a w K Q := by
  obtain ⟨g', cap', w', hr, h2, h3, h4⟩ := run_append_row (P := P) t o.type e i z size bytes ht hi hz hsize hby hzs hsz hrow ad c news hl hnews h1 h63 hbytes hbase
  unfold Oper.wp execOp
  simp only [ho, resolve, invoke, builtin, Sem.run_bind, Sem.run_pure, Result.andThen_ok, List.map_toArray, List.map_cons, List.map_nil, hs, hx, hr]
  exact h g' cap' w' h2 h3 h4
/-- At a step of a region that draws its order. -/
theorem step_append_row {P : Program} (w : World) {ops : Array Oper} {o : Oper} {a : Act} {K : Act → World → Prop} {Q : Exit → Act → World → Prop} {E : Prop} (hgd : o.guard = none) (s x : Operand) (t : TypeId)
    (ho : o.op = .call { callee := .builtin .append, args := #[s, x], argTypes := #[t, t] })
    (base : Nat) (e : TypeId) (i : TypeInfo) (z : Value) (size bytes : Nat) (ht : P.underlying t = some (.slice e)) (hi : P.info? e = some i) (hz : i.zero = some z)
    (hsize : i.size = size) (hby : i.bytes = bytes) (hzs : z.cells.size = size) (hsz : 0 < size)
    (g n cap : Nat) (xs : List Value) (hs : a.eval s = .slice (some ⟨g, 0, none⟩) n cap) (hrow : Row w base size g n cap xs)
    (ad : Addr) (c : Nat) (news : List Value) (hx : a.eval x = .slice (some ad) 1 c) (hl : news.length = size) (hnews : ∀ j u, news[j]? = some u → w.cell? (ad.add j) = some u) (h1 : ∀ u ∈ news, u.oneCell' = true)
    (h63 : n + 1 ≤ maxLen) (hbytes : (n + 1) * bytes ≤ 140737488355328) (hbase : base ≤ w.heap.size)
    (h : ∀ g' cap' w', Row w' base size g' (n + 1) cap' (xs ++ news) → w.grownBy w' (some g) → (g' = g ∨ g' = w.heap.size) → K (a.put o.dst (.slice (some ⟨g', 0, none⟩) (n + 1) cap')) w') :
    if Region.wanted o (yielded ops a.tmps) = true then Oper.wp P o a w K Q else E := by
  have hw : Region.wanted o (yielded ops a.tmps) = true := by simp [Region.wanted, hgd]
  rw [if_pos hw]
  exact wp_append_row w s x t ho base e i z size bytes ht hi hz hsize hby hzs hsz g n cap xs hs hrow ad c news hx hl hnews h1 h63 hbytes hbase h

theorem infoLab : (Tryd.prog.info? 37).map (fun i => (i.zero, i.size, i.bytes)) = some (some (.agg #[.int .i64 0, .int .u64 0]), 2, 16) := by kernel_rfl

/-- The fault of a line. -/
def fault (k : Nat) : List PanicEntry := [{ v := .iface 32 (.int .i64 (k : Int)), recovered := false }]
/-- The labels of open regions in memory: the innermost last. -/
def StkIn (w : World) (base g n cap : Nat) (op : List Lb) : Prop := n = op.length ∧ Row w base 2 g n cap (labCells op.reverse)
theorem StkIn.row {w : World} {base g n cap : Nat} {op : List Lb} (h : StkIn w base g n cap op) : Row w base 2 g n cap (labCells op.reverse) := h.2
theorem StkIn.below {w w' : World} {base g n cap : Nat} {op : List Lb} (h : StkIn w base g n cap op) (hb : Below w.heap.size w w') : StkIn w' base g n cap op := ⟨h.1, h.2.below hb⟩
theorem StkIn.pop {w : World} {base g n cap : Nat} {op : List Lb} (h : StkIn w base g n cap op) : StkIn w base g (n - 1) (n - 1) op.tail := by
  obtain ⟨rfl, hr⟩ := h
  refine ⟨by simp, ?_⟩
  have := hr.cut (m := op.length - 1) (by omega)
  cases op with
  | nil => simpa [labCells] using this
  | cons a r =>
    have e : (labCells (a :: r).reverse).take (((a :: r).length - 1) * 2) = labCells r.reverse := by
      rw [List.reverse_cons, labCells_snoc]
      exact List.take_left' (by rw [labCells_length]; simp)
    rw [e] at this
    exact this
theorem StkIn.top {w : World} {base g n cap : Nat} {a : Lb} {r : List Lb} (h : StkIn w base g n cap (a :: r)) : w.cell? ⟨g, (n - 1) * 2, none⟩ = some (.int .i64 a.1) ∧ w.cell? ⟨g, (n - 1) * 2 + 1, none⟩ = some (.int .u64 (a.2 : Int)) := by
  obtain ⟨rfl, hr⟩ := h
  have hc := labCells_at (a :: r).reverse r.length (by simp)
  have e : (a :: r).reverse[r.length]'(by simp) = a := by simp
  rw [e] at hc
  exact ⟨hr.holds _ _ (by simpa using hc.1), hr.holds _ _ (by simpa using hc.2)⟩

end Go.Proofs.YtlggoplffhdkhaaDoor.I

namespace Go.Proofs.YtlggoplffhdkhaaDoor.O
open Go.RowKit Go.Maps
open T

theorem strLaw : Keyed Tryd.prog 9 := string_keyed Tryd.underlying9
theorem zeroInt (w : World) : (zeroValue 3).run Tryd.prog w = .ok (.int .i64 0) w := by kernel_rfl

/-- Block mb is a map from texts to numbers that reads as f, of at most n entries. -/
def MapIs (w : World) (mb n : Nat) (f : List UInt8 → Int) : Prop :=
  ∃ D : DataW Unit, w.ownsMap Tryd.prog 9 (plainElem Tryd.prog 3) mb n D ∧ IsMap D ∧ ∀ k : List UInt8, D.atKey (.string k) (.lit (.int .i64 0)) = .lit (.int .i64 (f k))
/-- f, but v at k. -/
def upd (f : List UInt8 → Int) (k : List UInt8) (v : Int) : List UInt8 → Int := fun x => if x = k then v else f x
theorem MapIs.start (w : World) : MapIs (w.alloc (.map #[] 0)) w.heap.size 0 (fun _ => 0) :=
  ⟨.map [], World.ownsMap_made _ _ _ _, ⟨_, rfl⟩, fun _ => rfl⟩
theorem MapIs.kept {w w' : World} {mb n : Nat} {f : List UInt8 → Int} {row : Option Nat} (h : MapIs w mb n f) (hg : w.grownBy w' row) (hne : some mb ≠ row) : MapIs w' mb n f := by
  obtain ⟨D, h1, h2, h3⟩ := h
  exact ⟨D, h1.kept hg hne, h2, h3⟩
theorem MapIs.lt {w : World} {mb n : Nat} {f : List UInt8 → Int} (h : MapIs w mb n f) : mb < w.heap.size := by
  obtain ⟨D, h1, h2, h3⟩ := h
  exact h1.lt
theorem MapIs.mono {w : World} {mb n n' : Nat} {f : List UInt8 → Int} (h : MapIs w mb n f) (hn : n ≤ n') : MapIs w mb n' f := by
  obtain ⟨D, h1, h2, h3⟩ := h
  exact ⟨D, h1.mono hn, h2, h3⟩
theorem MapIs.notCells {w : World} {mb n : Nat} {f : List UInt8 → Int} (h : MapIs w mb n f) {g : Nat} {cs : Array Value} {t : TypeId} {z : Nat × Nat} (hc : w.heap[g]? = some (.cells cs t z)) : g ≠ mb := by
  obtain ⟨D, ⟨es, _, hb, _⟩, _, _⟩ := h
  rintro rfl
  rw [hb] at hc
  cases hc
theorem MapIs.notCell {w : World} {mb n : Nat} {f : List UInt8 → Int} (h : MapIs w mb n f) {g o : Nat} {v : Value} (hc : w.cell? ⟨g, o, none⟩ = some v) : g ≠ mb := by
  obtain ⟨D, ⟨es, _, hb, _⟩, _, _⟩ := h
  rintro rfl
  simp [World.cell?, hb] at hc
theorem MapIs.look {w : World} {mb n : Nat} {f : List UInt8 → Int} (h : MapIs w mb n f) {t : TypeId} (ht : Tryd.prog.underlying t = some (.map 9 3)) (s : ByteArray) (hs : s.size ≤ maxLen) :
    (Instr.lookup t (.map (some mb)) (.string s) false).run Tryd.prog w = .ok (.int .i64 (f s.data.toList)) w := by
  obtain ⟨D, h1, h2, h3⟩ := h
  obtain ⟨c, hrun, hat, hwc⟩ := h1.lookup_int strLaw ht Tryd.underlying3 (zeroInt w) (Go.WideMaps.keyOf_string_mk Tryd.underlying9 hs)
  rw [h3] at hat
  have e : f s.data.toList = c := by simpa only [DataW.lit.injEq, Lit.int.injEq, true_and] using hat
  rw [e]
  exact hrun
theorem lit_ne {k k' : List UInt8} (h : k' ≠ k) : (Lit.string k') ≠ .string k := fun e => h (by injection e)
theorem MapIs.put {w : World} {mb n : Nat} {f : List UInt8 → Int} {D : DataW Unit} (h2 : IsMap D) (h3 : ∀ k : List UInt8, D.atKey (.string k) (.lit (.int .i64 0)) = .lit (.int .i64 (f k))) {k : List UInt8} {v : Int}
    (h1 : w.ownsMap Tryd.prog 9 (plainElem Tryd.prog 3) mb n (D.put (.string k) (.lit (.int .i64 v)))) : MapIs w mb n (upd f k v) := by
  refine ⟨_, h1, h1.isMap, fun x => ?_⟩
  by_cases e : x = k
  · subst e
    rw [atKey_put_same (k := .string x) h2 trivial, upd, if_pos rfl]
  · rw [atKey_put_other (lit_ne e), h3, upd, if_neg e]
/-- A store, at the operation. -/
theorem wpList_put (w : World) {ops : Array Oper} {rest : List Oper} {o : Oper} {a : Act} {Q : Exit → Act → World → Prop} (hg : o.guard = none) (m x v : Operand) (t : TypeId) (hop : o.op = Op.mapUpdate t m x v)
    (ht : Tryd.prog.underlying t = some (.map 9 3)) (mb n : Nat) (f : List UInt8 → Int) (hm : a.eval m = .map (some mb)) (h : MapIs w mb n f) (hn : n < maxLen) (s : ByteArray) (hs : s.size ≤ maxLen) (z : Int) (hx : a.eval x = .string s) (hv : a.eval v = .int .i64 z) (hz : (Lit.int .i64 z).wf = true)
    (hK : ∀ w', MapIs w' mb (n + 1) (upd f s.data.toList z) → w.grownBy w' (some mb) → wpList Tryd.prog ops Q rest (a.put o.dst undef) w') : wpList Tryd.prog ops Q (o :: rest) a w := by
  obtain ⟨D, h1, h2, h3⟩ := h
  exact wpList_mapUpdate_own w hg m x v t hop 9 3 strLaw ht _ mb n D hm h1 hn _ _ _ hx hv (Go.WideMaps.keyOf_string_mk Tryd.underlying9 hs) _ [] (plainElem_int Tryd.underlying3 hz) (fun w' o1 g1 => hK w' (MapIs.put h2 h3 o1) g1)

/-- The cells of users and floors. -/
def usrCells (us : List Usr) : List Value := us.flatMap fun u => [.string ⟨u.name.toArray⟩, .int .i64 u.lv, .int .u64 (u.ct : Int), .bool u.ad]
def flrCells (fs : List Flr) : List Value := fs.flatMap fun f => [.string ⟨f.pre.toArray⟩, .int .i64 f.lv, .int .u64 (f.ct : Int)]
/-- The cells of a reader. -/
def rdCells (p : Pol) (uv fv : Value) (mb : Nat) (line : Int) : Array Value :=
  #[.int .i64 (p.ns.getD 0 0), .int .i64 (p.ns.getD 1 0), .int .i64 (p.ns.getD 2 0), .int .i64 (p.ns.getD 3 0), .int .i64 (p.ns.getD 4 0), .int .i64 (p.ns.getD 5 0), .string ⟨p.hid.toArray⟩, uv, fv, .map (some mb), .int .i64 line]
theorem own_ne {w : World} {base : Nat} {e : TypeId} {size n : Nat} {v : Value} {xs : List Value} (h : w.ownsRow base e size v n xs) {g : Nat} (hne : ∀ cs, w.heap[g]? ≠ some (.cells cs e (0, 0))) : v.ownBlock = none ∨ v.ownBlock ≠ some g := by
  rcases h.2 with ⟨rfl, _⟩ | ⟨g', cap, cur, rfl, hg, hh, _⟩
  · exact .inl rfl
  · refine .inr fun e' => ?_
    simp [Value.ownBlock] at e'
    subst e'
    exact hne _ hh
theorem grown_of {w w' : World} (hb : Below w.heap.size w w') (row : Option Nat) : w.grownBy w' row := ⟨hb.os, hb.tape, hb.output, hb.size, fun k hk _ => hb.block k hk⟩
theorem grown_set (w : World) (p : Addr) (u : Value) : w.grownBy (w.setCell p u) (some p.block) :=
  ⟨rfl, rfl, rfl, by simp [World.setCell], fun k _ hk => Below.heap_setCell _ _ _ _ (fun e => hk (by rw [e]))⟩
variable {w w' : World} {base rb mb n : Nat} {p : Pol} {f : List UInt8 → Int} {line : Int} {uv fv : Value}
theorem ne_type {a b : TypeId} {x y : Array Value} (hne : a ≠ b) {o : Option Obj} (h : o = some (.cells x a (0, 0))) : o ≠ some (.cells y b (0, 0)) := fun e => by
  rw [h] at e; injection e with e; injection e with _ e; exact hne e
theorem MapIs.cellKept {w w' : World} {mb n : Nat} {f : List UInt8 → Int} (h : MapIs w mb n f) (hg : w.grownBy w' (some mb)) {g o : Nat} {v : Value} (hc : w.cell? ⟨g, o, none⟩ = some v) : w'.cell? ⟨g, o, none⟩ = some v :=
  hg.cell hc (fun e => h.notCell hc (by injection e))
/-- A fault goes up: the line's number stands, and what is not the reader's is as it was. -/
def Fell (w : World) (base rb : Nat) (line : Int) (e : Ending) (w' : World) : Prop := e = .panicked fault ∧ w'.cell? ⟨rb, 10, none⟩ = some (.int .i64 line) ∧ Below base w w'
end Go.Proofs.YtlggoplffhdkhaaDoor.O

namespace Go.Proofs.YtlggoplffhdkhaaDoor.I
set_option linter.unusedVariables false
set_option linter.unusedSimpArgs false
open Go.RowKit
open T
open O (own_ne grown_of grown_set ne_type)
attribute [local go_sem ↓] Go.wp_at_zero Go.wp_at_succ

/-- A policy's value. -/
structure PV where
  n0 : Int
  n1 : Int
  n2 : Int
  n3 : Int
  n4 : Int
  n5 : Int
  hid : ByteArray
  uv : Value
  fv : Value
/-- The cells of a reader. -/
def rdCells (q : PV) (ov iv : Value) (line con : Nat) : Array Value :=
  #[.int .i64 q.n0, .int .i64 q.n1, .int .i64 q.n2, .int .i64 q.n3, .int .i64 q.n4, .int .i64 q.n5, .string q.hid, q.uv, q.fv, ov, iv, .int .i64 (line : Int), .int .i64 (con : Int)]
/-- What a reader's calls may not turn: the blocks below lo, and those from a on, below b. -/
structure Zone where
  lo : Nat
  a : Nat
  b : Nat
def Kp (z : Zone) (w w' : World) : Prop := Below z.lo w w' ∧ ∀ k, z.a ≤ k → k < z.b → w'.heap[k]? = w.heap[k]?
def Out (z : Zone) (k : Nat) : Prop := z.lo ≤ k ∧ ¬ (z.a ≤ k ∧ k < z.b)
theorem Kp.refl (z : Zone) (w : World) : Kp z w w := ⟨Below.refl _ _, fun _ _ _ => rfl⟩
theorem Kp.trans {z : Zone} {a b c : World} (h : Kp z a b) (h' : Kp z b c) : Kp z a c := ⟨h.1.trans h'.1, fun k h1 h2 => (h'.2 k h1 h2).trans (h.2 k h1 h2)⟩
theorem Kp.of {z : Zone} {w w' : World} (h : Below w.heap.size w w') (h1 : z.lo ≤ w.heap.size) (h2 : z.b ≤ w.heap.size) : Kp z w w' := ⟨h.mono h1, fun k _ hk => h.block k (by omega)⟩
theorem Kp.drew {z : Zone} {w w' : World} (h : Kp z w w') : Kp z w w'.drew := ⟨h.1.drew, h.2⟩
theorem Kp.setCell {z : Zone} {w w' : World} (h : Kp z w w') {p : Addr} (hp : Out z p.block) (v : Value) : Kp z w (w'.setCell p v) :=
  ⟨h.1.setCell hp.1 v, fun k h1 h2 => (Below.heap_setCell _ _ _ _ (fun e => hp.2 (by rw [← e]; exact ⟨h1, h2⟩))).trans (h.2 k h1 h2)⟩
theorem Kp.grown {z : Zone} {w w' w2 : World} {row : Option Nat} (h : Kp z w w') (hg : w'.grownBy w2 row) (h1 : z.lo ≤ w'.heap.size) (h2 : z.b ≤ w'.heap.size) (hr : ∀ k, row = some k → Out z k) : Kp z w w2 :=
  ⟨h.1.grown hg h1 (fun k hk => (hr k hk).1), fun k a1 a2 => (hg.block k (by omega) (fun e => (hr k e.symm).2 ⟨a1, a2⟩)).trans (h.2 k a1 a2)⟩
variable {w w' : World} {base : Zone} {rb : Nat} {q : PV} {s : Ps} {line g cap : Nat} {iv : Value}
/-- A fault goes up: the line's number stands, and what is not the reader's is as it was. -/
def Fell (w : World) (base : Zone) (rb line k : Nat) (e : Ending) (w' : World) : Prop := e = .panicked (fault k) ∧ w'.cell? ⟨rb, 11, none⟩ = some (.int .i64 (line : Int)) ∧ Kp base w w'
abbrev itV (id lv : Int) (ct : Nat) (an : Bool) (tx : ByteArray) (ba : Bool) : Value := .agg #[.int .i64 id, .int .i64 lv, .int .u64 (ct : Int), .bool an, .string tx, .bool ba]

abbrev itA (id lv : Int) (ct : Nat) (an : Bool) (tx : ByteArray) (ba : Bool) : Array Value := #[.int .i64 id, .int .i64 lv, .int .u64 (ct : Int), .bool an, .string tx, .bool ba]

end Go.Proofs.YtlggoplffhdkhaaDoor.I

namespace Go.Proofs.YtlggoplffhdkhaaDoor.I
set_option linter.unusedVariables false
set_option linter.unusedSimpArgs false
open Go.RowKit
open T
open O (own_ne grown_of grown_set ne_type)
variable {w w' : World} {base : Zone} {rb : Nat} {q : PV} {s : Ps} {line g cap : Nat} {iv : Value}

def conTo (k : Nat) : Ps ⊕ Nat → Ps ⊕ Nat
  | .inl u => .inl ⟨u.op, u.its, k⟩
  | .inr e => .inr e
theorem content_is (s : Ps) (k : Nat) (t : List UInt8) (b : Bool) : content s k t b = if t.length ≤ 200 then conTo k (add s false t b) else .inr 4 := by
  unfold content
  cases add s false t b <;> rfl
end Go.Proofs.YtlggoplffhdkhaaDoor.I

namespace Go.Proofs.YtlggoplffhdkhaaDoor.O
open Go.RowKit
open T
variable {w w' : World} {base rb mb n : Nat} {p : Pol} {f : List UInt8 → Int} {line : Int} {uv fv : Value}

theorem wpStill_skip {P : Program} {ops : Array Oper} {w : World} {Q : Act → Prop} {a : Act} {o : Oper} {rest : List Oper} (h : Region.wanted o (yielded ops a.tmps) = false) (hk : wpStill P ops w Q rest (a.put o.dst undef)) : wpStill P ops w Q (o :: rest) a := by
  rw [wpStill, h]
  exact hk
theorem drew_below (w : World) : Below w.heap.size w w.drew := (Below.refl _ _).drew

theorem lab_cells {w : World} {g : Nat} {l : Int} {k : Nat} (h : w.heap[g]? = some (.cells #[.int .i64 l, .int .u64 (k : Int)] 37 (0, 0))) : w.cell? ⟨g, 0, none⟩ = some (.int .i64 l) ∧ w.cell? ⟨g, 1, none⟩ = some (.int .u64 (k : Int)) := ⟨L.blk_cell h 0, L.blk_cell h 1⟩
def kLevels : ByteArray := ⟨#[108, 101, 118, 101, 108, 115]⟩
def kCats : ByteArray := ⟨#[99, 97, 116, 115]⟩

def Parsed (s : ByteArray) (l : Int) (k : Nat) (is : Bool) : Prop := ∀ w : World, Tab w → Calls Tryd.prog 71 #[.string s] w fun e w' => e = .returned (.tuple #[L.lab l k, .bool is]) ∧ Below w.heap.size w w'
theorem Parsed.call {s : ByteArray} {l : Int} {k : Nat} {is : Bool} (h : Parsed s l k is) (w : World) (ht : Tab w) : Calls Tryd.prog 71 #[.string s] w fun e w' => e = .returned (.tuple #[L.lab l k, .bool is]) ∧ Below w.heap.size w w' := h w ht
theorem parsed_some {s : ByteArray} {a : Nat × Nat} (hs : s.size ≤ 4194304) (h : L.parse s.data.toList = some a) : Parsed s (a.1 : Int) a.2 true := fun w ht => by
  have := L.parse_any s w hs ht
  rw [h] at this
  exact this
theorem parsed_none {s : ByteArray} (hs : s.size ≤ 4194304) (h : L.parse s.data.toList = none) : Parsed s 0 0 false := fun w ht => by
  have := L.parse_any s w hs ht
  rw [h] at this
  exact this

end Go.Proofs.YtlggoplffhdkhaaDoor.O

namespace Go.Proofs.YtlggoplffhdkhaaDoor.I
set_option linter.unusedVariables false
set_option linter.unusedSimpArgs false
open Go.RowKit
open T
open O (own_ne grown_of grown_set ne_type wpStill_skip)
variable {w w' : World} {base : Zone} {rb : Nat} {q : PV} {s : Ps} {line g cap : Nat} {iv : Value}

/-- Operations whose guard is false, and whose slots are empty: passed over all at once. -/
def undefAt (a : Act) (d : Option Tmp) : Bool := match d with
  | none => true
  | some k => match a.tmps[k]? with
    | some (.tuple x) => x.size == 0
    | some _ => false
    | none => true
theorem put_undef {a : Act} {d : Option Tmp} (h : undefAt a d = true) : a.put d undef = a := by
  cases d with
  | none => rfl
  | some k =>
    unfold undefAt at h
    simp only at h
    unfold Act.put
    simp only
    cases hk : a.tmps[k]? with
    | none =>
      have : a.tmps.size ≤ k := by
        rcases Nat.lt_or_ge k a.tmps.size with hl | hl
        · rw [Array.getElem?_eq_getElem hl] at hk; cases hk
        · exact hl
      rw [Array.setIfInBounds_eq_of_size_le this]
    | some v =>
      rw [hk] at h
      cases v with
      | tuple x =>
        simp only [beq_iff_eq] at h
        have hx : x = #[] := Array.eq_empty_of_size_eq_zero h
        subst hx
        have : a.tmps.setIfInBounds k undef = a.tmps := by
          apply Array.ext_getElem?
          intro i
          rw [Array.getElem?_setIfInBounds]
          split
          · next e =>
            subst e
            rw [hk]
            split
            · rfl
            · next hlt => rw [Array.getElem?_eq_none (by omega)] at hk; cases hk
          · rfl
        rw [this]
      | _ => cases h
theorem wpStill_skips {P : Program} {ops : Array Oper} {w : World} {Q : Act → Prop} {a : Act} : ∀ (n : Nat) {L : List Oper}, ((L.take n).all fun o => !Region.wanted o (yielded ops a.tmps) && undefAt a o.dst) = true → wpStill P ops w Q (L.drop n) a → wpStill P ops w Q L a
  | 0, _, _, hk => hk
  | n + 1, [], _, hk => hk
  | n + 1, o :: r, h, hk => by
    rw [List.take_succ_cons, List.all_cons, Bool.and_eq_true, Bool.and_eq_true] at h
    rw [List.drop_succ_cons] at hk
    refine wpStill_skip (by simpa using h.1.1) ?_
    rw [put_undef h.1.2]
    exact wpStill_skips n h.2 hk

theorem itCells_length (xs : List It) : (itCells xs).length = xs.length * 6 := by
  induction xs with
  | nil => rfl
  | cons x r ih => simp only [itCells, List.flatMap_cons, List.length_append, List.length_cons, List.length_nil] at ih ⊢; omega
theorem itCells_last (ys : List It) (y : It) : (itCells (ys ++ [y]))[ys.length * 6 + 4]? = some (.string ⟨y.tx.toArray⟩) ∧ (itCells (ys ++ [y])).set (ys.length * 6 + 5) (.bool true) = itCells (ys ++ [⟨y.id, y.lv, y.ct, y.an, y.tx, true⟩]) := by
  rw [itCells_snoc, itCells_snoc]
  constructor
  · rw [List.getElem?_append_right (by rw [itCells_length]; omega), itCells_length, show ys.length * 6 + 4 - ys.length * 6 = 4 by omega]; rfl
  · rw [List.set_append_right _ _ (by rw [itCells_length]; omega), itCells_length, show ys.length * 6 + 5 - ys.length * 6 = 5 by omega]; rfl

end Go.Proofs.YtlggoplffhdkhaaDoor.I

namespace Go.Proofs.YtlggoplffhdkhaaDoor.I
set_option linter.unusedVariables false
set_option linter.unusedSimpArgs false
open Go.RowKit
open T
open O (own_ne grown_of grown_set ne_type)
attribute [local go_sem ↓] Go.wp_at_zero Go.wp_at_succ
variable {w w' : World} {base : Zone} {rb : Nat} {q : PV} {s : Ps} {line g cap : Nat} {iv : Value}

theorem below_eq {a b : World} (h : a = b) : Below a.heap.size a b := by subst h; exact Below.refl _ _
end Go.Proofs.YtlggoplffhdkhaaDoor.I

namespace Go.Proofs.YtlggoplffhdkhaaDoor.I
set_option linter.unusedVariables false
set_option linter.unusedSimpArgs false
open Go.RowKit
open T

theorem all_step {α : Type} {p : α → Bool} {l : List α} {k : Nat} (hk : k < l.length) (h : ∀ j (hj : j < l.length), j < k → p l[j] = true) (hp : p l[k] = true) : ∀ j (hj : j < l.length), j < k + 1 → p l[j] = true := fun j hj hjk => by
  by_cases e : j = k
  · subst e; exact hp
  · exact h j hj (by omega)
theorem all_no {α : Type} {p : α → Bool} {l : List α} {k : Nat} (hk : k < l.length) (hp : p l[k] = false) : l.all p = false := by
  rw [List.all_eq_false]
  exact ⟨l[k], List.getElem_mem hk, by rw [hp]; decide⟩
theorem all_yes {α : Type} {p : α → Bool} {l : List α} (h : ∀ j (hj : j < l.length), j < l.length → p l[j] = true) : l.all p = true := by
  rw [List.all_eq_true]
  intro x hx
  obtain ⟨j, hj, rfl⟩ := List.getElem_of_mem hx
  exact h j hj hj

def shortB (x : It) : Bool := decide (x.tx.length ≤ 200)
def RtC (l : Int) (c : Nat) (b : Bool) : Prop := ∀ W : World, Calls Tryd.prog 61 #[L.lab l c] W fun e w' => e = .returned (.bool b) ∧ Below W.heap.size W w'
theorem RtC.call {l : Int} {c : Nat} {b : Bool} (h : RtC l c b) (W : World) : Calls Tryd.prog 61 #[L.lab l c] W fun e w' => e = .returned (.bool b) ∧ Below W.heap.size W w' := h W
theorem right_c {l : Int} {c : Nat} {b : Bool} (h : L.rightB l = b) : RtC l c b := fun W => by
  have := L.right_any l c W
  rw [h] at this
  exact this
end Go.Proofs.YtlggoplffhdkhaaDoor.I
