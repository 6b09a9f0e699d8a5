/-
  A line, read as the reference reads it, comes to what take says: plain facts.
-/
import Derived.Test.YtadhhamfikpimaaDoorGn
import Derived.Test.YtadhhamfikpimaaDoorGf
namespace Go.Proofs.YtadhhamfikpimaaDoor.O
set_option linter.unusedVariables false
set_option linter.unusedSimpArgs false

theorem words_cut (l : List UInt8) : ∀ (cur a : List UInt8) (ws : List (List UInt8)), P.words cur l = a :: ws → ws ≠ [] → ∃ r, cur ++ l = a ++ 32 :: r ∧ P.words [] r = ws := by
  induction l with
  | nil =>
    intro cur a ws h hne
    simp only [P.words] at h
    injection h with h1 h2
    exact absurd h2.symm hne
  | cons c r ih =>
    intro cur a ws h hne
    rw [P.words] at h
    split at h
    · rename_i hc
      injection h with h1 h2
      exact ⟨r, by rw [h1, hc], h2⟩
    · obtain ⟨r', e1, e2⟩ := ih _ _ _ h hne
      exact ⟨r', by rw [← e1]; simp, e2⟩
theorem words_one (l : List UInt8) : ∀ (cur a : List UInt8), P.words cur l = [a] → a = cur ++ l := by
  induction l with
  | nil => intro cur a h; simp only [P.words] at h; injection h with h; simp [h]
  | cons c r ih =>
    intro cur a h
    rw [P.words] at h
    split at h
    · injection h with h1 h2
      exact absurd h2 (words_ne [] r)
    · rw [ih _ _ h]; simp
theorem words_blank (l : List UInt8) : ∀ cur : List UInt8, 2 ≤ (P.words cur l).length → (32 : UInt8) ∈ l := by
  induction l with
  | nil => intro cur h; simp [P.words] at h
  | cons c r ih =>
    intro cur h
    rw [P.words] at h
    split at h
    · rename_i hc; rw [hc]; exact List.mem_cons_self
    · exact List.mem_cons_of_mem _ (ih _ h)
theorem numGo_blank (l : List UInt8) : ∀ n, (32 : UInt8) ∈ l → P.numGo l n = none := by
  induction l with
  | nil => intro n h; cases h
  | cons c r ih =>
    intro n h
    rw [P.numGo]
    split
    · rfl
    · rename_i h1
      split
      · rfl
      · rcases List.mem_cons.1 h with h | h
        · subst h; exact absurd (.inl (by decide)) h1
        · exact ih _ h
theorem number_blank (l : List UInt8) (h : (32 : UInt8) ∈ l) : P.number l = none := by
  unfold P.number
  split
  · rfl
  · exact numGo_blank l 0 h

variable {s : St} {l : List UInt8}
theorem take_head (h0 : ¬ (l = [] ∨ l.head? = some 35)) {a0 : List UInt8} {ws : List (List UInt8)} (hws : P.words [] l = a0 :: ws) : take s l = if a0 = kHidden then takeHidden s l else if a0 = kUser then takeUser s (a0 :: ws) else if a0 = kFloor then takeFloor s (a0 :: ws) else takeNumber s (a0 :: ws) := by
  rw [take, if_neg h0, hws]
  simp only [List.head?_cons, Option.some.injEq]
theorem take_short (h0 : ¬ (l = [] ∨ l.head? = some 35)) (h : (P.words [] l).length < 2) : take s l = none := by
  obtain ⟨a, ha⟩ : ∃ a, P.words [] l = [a] := by
    match hw : P.words [] l with
    | [] => exact absurd hw (words_ne [] l)
    | [a] => exact ⟨a, rfl⟩
    | _ :: _ :: _ => rw [hw] at h; simp only [List.length_cons] at h; exact absurd h (by omega)
  have hl := words_one l [] a ha
  rw [List.nil_append] at hl
  rw [take_head h0 ha]
  split
  · rename_i hk
    rw [← hl, hk]
    rw [takeHidden, if_neg (fun h' => absurd h'.1 (by decide))]
  · split
    · rfl
    · split <;> rfl
theorem take_key (h0 : ¬ (l = [] ∨ l.head? = some 35)) {a0 a1 : List UInt8} {rest : List (List UInt8)} (hws : P.words [] l = a0 :: a1 :: rest) (kk : Nat) (hkk : kk < 7) (hkey : keys.getD kk [] = a0) : take s l = plLine s kk (l.drop (a0.length + 1)) := by
  obtain ⟨r, e1, e2⟩ := words_cut l [] a0 (a1 :: rest) hws (by simp)
  rw [List.nil_append] at e1
  have ed : l.drop (a0.length + 1) = r := by rw [e1]; simp
  rw [take_head h0 hws, ed]
  by_cases h6 : kk = 6
  · subst h6
    have ha : a0 = kHidden := hkey.symm
    rw [if_pos ha, plLine, if_pos rfl, takeHidden]
    have e7 : l.drop 7 = r := by rw [← ed, ha]; rfl
    have hp : (kHidden ++ [32]) <+: l := ⟨r, by rw [e1, ha]; simp⟩
    rw [e7]
    by_cases hc : s.once.getD 6 false = false ∧ plainB r = true
    · rw [if_pos hc, if_pos ⟨hp, hc.2, hc.1⟩]
    · rw [if_neg hc, if_neg (fun h' => hc ⟨h'.2.2, h'.2.1⟩)]
  · have hk6 : kk < 6 := by omega
    have hn : a0 ≠ kHidden ∧ a0 ≠ kUser ∧ a0 ≠ kFloor ∧ keyOf a0 = some kk := by
      subst hkey
      match kk, hk6 with
      | 0, _ => decide
      | 1, _ => decide
      | 2, _ => decide
      | 3, _ => decide
      | 4, _ => decide
      | 5, _ => decide
    rw [if_neg hn.1, if_neg hn.2.1, if_neg hn.2.2.1, plLine, if_neg h6]
    match rest, e2 with
    | [], e2 =>
      have := words_one r [] a1 e2
      rw [List.nil_append] at this
      rw [takeNumber, hn.2.2.2, Option.bind_some, this]
    | b :: t, e2 =>
      have hb := number_blank r (words_blank r [] (by rw [e2]; simp))
      rw [numLine, hb]
      show none = _
      split <;> rfl
theorem take_other (h0 : ¬ (l = [] ∨ l.head? = some 35)) {a0 : List UInt8} {ws : List (List UInt8)} (hws : P.words [] l = a0 :: ws) (hk : ∀ j, j < 7 → keys.getD j [] ≠ a0) (hu : a0 ≠ kUser) (hf : a0 ≠ kFloor) : take s l = none := by
  rw [take_head h0 hws, if_neg (fun e => hk 6 (by omega) e.symm), if_neg hu, if_neg hf]
  have hn : keyOf a0 = none := by
    unfold keyOf
    rw [List.idxOf?_eq_none_iff]
    intro hm
    obtain ⟨i, hi, e⟩ := List.getElem_of_mem hm
    have h6 : (keys.take 6).length = 6 := rfl
    rw [h6] at hi
    refine hk i (by omega) ?_
    rw [← e, List.getElem_take, List.getD_eq_getElem?_getD, List.getElem?_eq_getElem (by show i < 7; omega)]
    rfl
  match ws with
  | [] => rfl
  | [v] => rw [takeNumber, hn]; rfl
  | _ :: _ :: _ => rfl
theorem take_user (h0 : ¬ (l = [] ∨ l.head? = some 35)) {ws : List (List UInt8)} (hws : P.words [] l = kUser :: ws) : take s l = takeUser s (kUser :: ws) := by
  rw [take_head h0 hws, if_neg (by decide), if_pos rfl]
theorem take_floor (h0 : ¬ (l = [] ∨ l.head? = some 35)) {ws : List (List UInt8)} (hws : P.words [] l = kFloor :: ws) : take s l = takeFloor s (kFloor :: ws) := by
  rw [take_head h0 hws, if_neg (by decide), if_neg (by decide), if_pos rfl]
theorem takeUser_eq (s : St) (ws : List (List UInt8)) (h3 : 3 ≤ ws.length) : takeUser s ws = if ws.length ≤ 4 ∧ ∀ h : 3 < ws.length, ws[3] = kAdmin then addUser s (ws[1]'(by omega)) (ws[2]'(by omega)) (decide (ws.length = 4)) else none := by
  match ws, h3 with
  | [a, b, c], _ =>
    rw [if_pos ⟨by simp, fun h => absurd h (by simp)⟩]
    rfl
  | [a, b, c, d], _ =>
    rw [takeUser]
    by_cases hd : d = kAdmin
    · rw [if_pos hd, if_pos ⟨by simp, fun _ => hd⟩]
      rfl
    · rw [if_neg hd, if_neg (fun h' => hd (h'.2 (by simp)))]
  | a :: b :: c :: d :: e :: r, _ => rw [if_neg (fun h' => by have := h'.1; simp at this)]; rfl
theorem takeFloor_eq (s : St) (ws : List (List UInt8)) (h3 : 3 ≤ ws.length) : takeFloor s ws = if ws.length ≤ 3 then (if s.p.fs.length < 32 ∧ P.name (ws[1]'(by omega)) = true ∧ (ws[1]'(by omega)) ∉ s.p.fs.map (·.pre) then (labelFor s (ws[2]'(by omega))).map fun a => ⟨{ s.p with fs := s.p.fs ++ [⟨(ws[1]'(by omega)), a.1, a.2⟩] }, s.once⟩ else none) else none := by
  match ws, h3 with
  | [a, b, c], _ => rw [if_pos (by simp)]; rfl
  | a :: b :: c :: d :: r, _ => rw [if_neg (by simp)]; rfl
theorem takeUser_short (s : St) (ws : List (List UInt8)) (h3 : ws.length < 3) : takeUser s ws = none := by
  match ws, h3 with
  | [], _ => rfl
  | [_], _ => rfl
  | [_, _], _ => rfl
theorem takeFloor_short (s : St) (ws : List (List UInt8)) (h3 : ws.length < 3) : takeFloor s ws = none := by
  match ws, h3 with
  | [], _ => rfl
  | [_], _ => rfl
  | [_, _], _ => rfl
theorem takeUser_nolab (s : St) (ws : List (List UInt8)) (h3 : 3 ≤ ws.length) (h : labelFor s (ws[2]'(by omega)) = none) : takeUser s ws = none := by
  rw [takeUser_eq s ws h3]
  split
  · unfold addUser
    split
    · rw [h]; rfl
    · rfl
  · rfl
theorem takeFloor_nolab (s : St) (ws : List (List UInt8)) (h3 : 3 ≤ ws.length) (h : labelFor s (ws[2]'(by omega)) = none) : takeFloor s ws = none := by
  rw [takeFloor_eq s ws h3]
  split
  · split
    · rw [h]; rfl
    · rfl
  · rfl
theorem takeUser_noname (s : St) (ws : List (List UInt8)) (h3 : 3 ≤ ws.length) (h : P.name (ws[1]'(by omega)) = false) : takeUser s ws = none := by
  rw [takeUser_eq s ws h3]
  split
  · unfold addUser
    rw [if_neg (fun h' => by rw [h] at h'; exact absurd h'.2.1 (by decide))]
  · rfl
theorem takeFloor_noname (s : St) (ws : List (List UInt8)) (h3 : 3 ≤ ws.length) (h : P.name (ws[1]'(by omega)) = false) : takeFloor s ws = none := by
  rw [takeFloor_eq s ws h3]
  split
  · rw [if_neg (fun h' => by rw [h] at h'; exact absurd h'.2.1 (by decide))]
  · rfl
theorem labelFor_unsaid (s : St) (w : List UInt8) (h : s.once.getD 0 false = false ∨ s.once.getD 1 false = false) : labelFor s w = none := by
  unfold labelFor
  rw [if_neg (fun h' => by rcases h with h | h <;> rw [h] at h' <;> exact absurd h' (by simp))]
end Go.Proofs.YtadhhamfikpimaaDoor.O
