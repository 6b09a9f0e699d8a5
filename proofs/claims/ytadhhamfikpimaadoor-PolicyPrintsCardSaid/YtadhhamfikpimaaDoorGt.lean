/-
  A policy's text, read, is that policy: plain facts.
  What is read of a text may be: plain facts.
-/
import Derived.Test.YtadhhamfikpimaaDoorGs
import Derived.Test.YtadhhamfikpimaaDoorGo
import Derived.Test.YtadhhamfikpimaaDoorGd
namespace Go.Proofs.YtadhhamfikpimaaDoor.O
set_option linter.unusedVariables false
set_option linter.unusedSimpArgs false

theorem dec_high (n : Int) : ∀ x ∈ P.decimal n, 33 ≤ x.toNat := by
  have hd : ∀ u : Nat, ∀ x ∈ Lib.decDigits u, 48 ≤ x.toNat := by
    intro u
    induction u using Nat.strongRecOn with
    | ind u ih =>
      intro x hx
      rw [Lib.decDigits] at hx
      split at hx
      · next h => rw [List.mem_singleton.1 hx, P.digit u h]; omega
      · next h =>
        rw [List.mem_append] at hx
        rcases hx with hx | hx
        · exact ih (u / 10) (by omega) x hx
        · rw [List.mem_singleton.1 hx, P.digit _ (by omega)]; omega
  intro x hx
  unfold P.decimal at hx
  split at hx
  · rw [List.mem_singleton.1 hx]; decide
  · have := hd _ x hx; omega
theorem join_high {sep : List UInt8} (hs : ∀ x ∈ sep, 33 ≤ x.toNat) : ∀ xs : List (List UInt8), (∀ t ∈ xs, ∀ x ∈ t, 33 ≤ x.toNat) → ∀ x ∈ Lib.join xs sep, 33 ≤ x.toNat
  | [], _, x, hx => by simp [Lib.join] at hx
  | [a], h, x, hx => by simp [Lib.join] at hx; exact h a (by simp) x hx
  | a :: b :: r, h, x, hx => by
    have e : Lib.join (a :: b :: r) sep = a ++ (sep ++ Lib.join (b :: r) sep) := by simp [Lib.join]
    rw [e, List.mem_append, List.mem_append] at hx
    rcases hx with hx | hx | hx
    · exact h a (by simp) x hx
    · exact hs x hx
    · exact join_high hs (b :: r) (fun t ht => h t (List.mem_cons_of_mem _ ht)) x hx
theorem print_high (l : Int) (c : Nat) : ∀ x ∈ L.print l c, 33 ≤ x.toNat := by
  intro x hx
  unfold L.print at hx
  split at hx
  · exact dec_high l x hx
  · rw [List.mem_append, List.mem_append] at hx
    rcases hx with (hx | hx) | hx
    · exact dec_high l x hx
    · rw [List.mem_singleton.1 hx]; decide
    · unfold L.catsText at hx
      refine join_high (fun y hy => by rw [List.mem_singleton.1 hy]; decide) _ (fun t ht => ?_) x hx
      obtain ⟨n, _, rfl⟩ := List.mem_map.1 ht
      exact dec_high _
theorem name_high {l : List UInt8} (h : P.name l = true) : ∀ x ∈ l, 33 ≤ x.toNat := by
  unfold P.name at h
  simp only [Bool.and_eq_true, List.all_eq_true, decide_eq_true_eq] at h
  exact fun x hx => (h.2 x hx).1
theorem high_no {l : List UInt8} (h : ∀ x ∈ l, 33 ≤ x.toNat) (c : UInt8) (hc : c.toNat < 33) : c ∉ l := fun hm => by have := h c hm; omega
theorem words_none : ∀ (l cur : List UInt8), (32 : UInt8) ∉ l → P.words cur l = [cur ++ l]
  | [], cur, _ => by rw [P.words, List.append_nil]
  | c :: r, cur, h => by
    rw [P.words, if_neg (fun e => h (by rw [e]; exact List.mem_cons_self)), words_none r _ (fun hm => h (List.mem_cons_of_mem _ hm))]
    simp
theorem words_app : ∀ (a r cur : List UInt8), (32 : UInt8) ∉ a → P.words cur (a ++ 32 :: r) = (cur ++ a) :: P.words [] r
  | [], r, cur, _ => by rw [List.nil_append, P.words, if_pos rfl, List.append_nil]
  | c :: a, r, cur, h => by
    rw [List.cons_append, P.words, if_neg (fun e => h (by rw [e]; exact List.mem_cons_self)), words_app a r _ (fun hm => h (List.mem_cons_of_mem _ hm))]
    simp
theorem key_start {k : Nat} (hk : k < 7) (r : List UInt8) : ¬ (keys.getD k [] ++ r = [] ∨ (keys.getD k [] ++ r).head? = some 35) := by
  match k, hk with
  | 0, _ => simp [keys]
  | 1, _ => simp [keys]
  | 2, _ => simp [keys]
  | 3, _ => simp [keys]
  | 4, _ => simp [keys]
  | 5, _ => simp [keys]
  | 6, _ => simp [keys]
theorem back_num {s : St} {k : Nat} (hk : k < 6) {n : Int} (hn : inB (lows.getD k 0) (highs.getD k 0) n = true) (ho : s.once.getD k false = false) :
    take s (keys.getD k [] ++ 32 :: P.decimal n) = some ⟨{ s.p with ns := s.p.ns.set k n }, s.once.set k true⟩ := by
  have hn' := hn
  unfold inB at hn'
  simp only [Bool.and_eq_true, decide_eq_true_eq] at hn'
  have hlo : 0 ≤ lows.getD k 0 := by
    match k, hk with
    | 0, _ => decide
    | 1, _ => decide
    | 2, _ => decide
    | 3, _ => decide
    | 4, _ => decide
    | 5, _ => decide
  have hhi : highs.getD k 0 ≤ 400 := by
    match k, hk with
    | 0, _ => decide
    | 1, _ => decide
    | 2, _ => decide
    | 3, _ => decide
    | 4, _ => decide
    | 5, _ => decide
  have hws : P.words [] (keys.getD k [] ++ 32 :: P.decimal n) = keys.getD k [] :: P.decimal n :: [] := by
    rw [words_app _ _ _ (key_plain (by omega)), words_none _ _ (high_no (dec_high n) 32 (by decide))]
    rfl
  rw [take_key (key_start (by omega) _) hws k (by omega) rfl]
  have e : (keys.getD k [] ++ 32 :: P.decimal n).drop ((keys.getD k []).length + 1) = P.decimal n := by simp
  rw [e, plLine, if_neg (by omega), numLine, if_neg (by rw [ho]; decide), P.number_decimal n (by omega) (by omega), Option.bind_some]
  have en : ((n.toNat : Nat) : Int) = n := Int.toNat_of_nonneg (by omega)
  rw [en, if_pos hn']
theorem back_hidden {s : St} {hid : List UInt8} (hp : plainB hid = true) (ho : s.once.getD 6 false = false) :
    take s (kHidden ++ 32 :: hid) = some ⟨{ s.p with hid := hid }, s.once.set 6 true⟩ := by
  obtain ⟨a1, rest, h1⟩ : ∃ a1 rest, P.words [] hid = a1 :: rest := by
    match hw : P.words [] hid with
    | [] => exact absurd hw (words_ne [] hid)
    | a :: r => exact ⟨a, r, rfl⟩
  have hws : P.words [] (kHidden ++ 32 :: hid) = kHidden :: a1 :: rest := by
    rw [words_app _ _ _ (by decide), h1]
    rfl
  have hst : ¬ (kHidden ++ 32 :: hid = [] ∨ (kHidden ++ 32 :: hid).head? = some 35) := key_start (k := 6) (by omega) _
  rw [take_key hst hws 6 (by omega) rfl]
  have e : (kHidden ++ 32 :: hid).drop (kHidden.length + 1) = hid := rfl
  rw [e, plLine, if_pos rfl, if_pos ⟨ho, hp⟩]
theorem label_back {s : St} {l : Int} {c : Nat} (hc : c < 18446744073709551616) (hL : s.p.ns.getD 0 0 ≤ 16) (hf : fitsB (s.p.ns.getD 0 0) (s.p.ns.getD 1 0) l c = true) (h0 : s.once.getD 0 false = true) (h1 : s.once.getD 1 false = true) :
    ∃ n : Nat, (n : Int) = l ∧ labelFor s (L.print l c) = some (n, c) := by
  obtain ⟨f1, f2, f3, f4⟩ := fits_iff.1 hf
  have hr : L.rightB l = true := by
    unfold L.rightB
    rw [Bool.and_eq_true, decide_eq_true_iff, decide_eq_true_iff]
    omega
  have en : ((l.toNat : Nat) : Int) = l := Int.toNat_of_nonneg f1
  refine ⟨l.toNat, en, ?_⟩
  unfold labelFor
  rw [if_pos ⟨h0, h1⟩, L.parse_print l c hc hr]
  show (if s.p.fits ((l.toNat : Nat) : Int) c then _ else _) = _
  rw [en, if_pos (by unfold Pol.fits; rw [hf])]
theorem back_user {s : St} {u : Usr} (h32 : s.p.us.length < 32) (hnm : P.name u.name = true) (hnew : u.name ∉ s.p.us.map (·.name)) (hc : u.ct < 18446744073709551616) (hL : s.p.ns.getD 0 0 ≤ 16) (hf : fitsB (s.p.ns.getD 0 0) (s.p.ns.getD 1 0) u.lv u.ct = true) (h0 : s.once.getD 0 false = true) (h1 : s.once.getD 1 false = true) :
    take s (usrLn u) = some ⟨{ s.p with us := s.p.us ++ [u] }, s.once⟩ := by
  obtain ⟨nm, lv, ct, ad⟩ := u
  simp only at hnm hnew hc hf
  obtain ⟨n, en, hl⟩ := label_back hc hL hf h0 h1
  have n1 := high_no (name_high hnm) 32 (by decide)
  have n2 := high_no (print_high lv ct) 32 (by decide)
  have hst : ∀ r : List UInt8, ¬ (kUser ++ r = [] ∨ (kUser ++ r).head? = some 35) := fun r => by simp [kUser]
  cases ad with
  | false =>
    have hws : P.words [] (usrLn ⟨nm, lv, ct, false⟩) = kUser :: [nm, L.print lv ct] := by
      show P.words [] (kUser ++ 32 :: (nm ++ 32 :: (L.print lv ct ++ []))) = _
      rw [List.append_nil, words_app _ _ _ (by decide), words_app _ _ _ n1, words_none _ _ n2]
      rfl
    have hs1 : ¬ (usrLn ⟨nm, lv, ct, false⟩ = [] ∨ (usrLn ⟨nm, lv, ct, false⟩).head? = some 35) := hst _
    rw [take_user hs1 hws, takeUser, addUser, if_pos ⟨h32, hnm, hnew⟩, hl]
    simp only [Option.map_some]
    rw [en]
  | true =>
    have hws : P.words [] (usrLn ⟨nm, lv, ct, true⟩) = kUser :: [nm, L.print lv ct, kAdmin] := by
      show P.words [] (kUser ++ 32 :: (nm ++ 32 :: (L.print lv ct ++ 32 :: kAdmin))) = _
      rw [words_app _ _ _ (by decide), words_app _ _ _ n1, words_app _ _ _ n2, words_none _ _ (by decide)]
      rfl
    have hs1 : ¬ (usrLn ⟨nm, lv, ct, true⟩ = [] ∨ (usrLn ⟨nm, lv, ct, true⟩).head? = some 35) := hst _
    rw [take_user hs1 hws, takeUser, if_pos rfl, addUser, if_pos ⟨h32, hnm, hnew⟩, hl]
    simp only [Option.map_some]
    rw [en]
theorem back_floor {s : St} {u : Flr} (h32 : s.p.fs.length < 32) (hnm : P.name u.pre = true) (hnew : u.pre ∉ s.p.fs.map (·.pre)) (hc : u.ct < 18446744073709551616) (hL : s.p.ns.getD 0 0 ≤ 16) (hf : fitsB (s.p.ns.getD 0 0) (s.p.ns.getD 1 0) u.lv u.ct = true) (h0 : s.once.getD 0 false = true) (h1 : s.once.getD 1 false = true) :
    take s (flrLn u) = some ⟨{ s.p with fs := s.p.fs ++ [u] }, s.once⟩ := by
  obtain ⟨nm, lv, ct⟩ := u
  simp only at hnm hnew hc hf
  obtain ⟨n, en, hl⟩ := label_back hc hL hf h0 h1
  have n1 := high_no (name_high hnm) 32 (by decide)
  have n2 := high_no (print_high lv ct) 32 (by decide)
  have hst : ∀ r : List UInt8, ¬ (kFloor ++ r = [] ∨ (kFloor ++ r).head? = some 35) := fun r => by simp [kFloor]
  have hws : P.words [] (flrLn ⟨nm, lv, ct⟩) = kFloor :: [nm, L.print lv ct] := by
    show P.words [] (kFloor ++ 32 :: (nm ++ 32 :: L.print lv ct)) = _
    rw [words_app _ _ _ (by decide), words_app _ _ _ n1, words_none _ _ n2]
    rfl
  have hs1 : ¬ (flrLn ⟨nm, lv, ct⟩ = [] ∨ (flrLn ⟨nm, lv, ct⟩).head? = some 35) := hst _
  rw [take_floor hs1 hws, takeFloor, if_pos ⟨h32, hnm, hnew⟩, hl]
  simp only [Option.map_some]
  rw [en]
theorem takeAll_app : ∀ (xs ys : List (List UInt8 × Bool)) (s t : St) (i : Nat), takeAll s i xs = .inl t → takeAll s i (xs ++ ys) = takeAll t (i + xs.length) ys
  | [], ys, s, t, i, h => by rw [takeAll] at h; injection h with h; subst h; rfl
  | x :: r, ys, s, t, i, h => by
    rw [takeAll] at h
    rw [List.cons_append, takeAll]
    cases ht : take s x.1 with
    | none => rw [ht] at h; cases h
    | some u =>
      rw [ht] at h
      simp only at h ⊢
      rw [takeAll_app r ys u t (i + 1) h, List.length_cons]
      congr 1
      omega
theorem ones_app (xs ys : List (List UInt8)) : ones (xs ++ ys) = ones xs ++ ones ys := List.map_append
theorem back_users : ∀ (us : List Usr) (s : St) (i : Nat), seenOk (s.p.ns.getD 0 0) (s.p.ns.getD 1 0) (s.p.us.map (·.name)) (us.map fun u => (u.name, u.lv, u.ct)) = true → s.p.us.length + us.length ≤ 32 → s.p.ns.getD 0 0 ≤ 16 → (∀ u ∈ us, u.ct < 18446744073709551616) → s.once.getD 0 false = true → s.once.getD 1 false = true →
    takeAll s i (ones (us.map usrLn)) = .inl ⟨{ s.p with us := s.p.us ++ us }, s.once⟩
  | [], s, i, _, _, _, _, _, _ => by simp [ones, takeAll]
  | u :: r, s, i, hs, hl, hL, hc, h0, h1 => by
    rw [List.map_cons, seenOk] at hs
    simp only [Bool.and_eq_true, decide_eq_true_eq] at hs
    simp only [List.length_cons] at hl
    have ht := back_user (s := s) (u := u) (by omega) hs.1.1.2 hs.1.1.1 (hc u List.mem_cons_self) hL hs.1.2 h0 h1
    show takeAll s i ((usrLn u, false) :: ones (r.map usrLn)) = _
    rw [takeAll, ht]
    have ih := back_users r ⟨{ s.p with us := s.p.us ++ [u] }, s.once⟩ (i + 1) (by simpa using hs.2) (by simp; omega) hL (fun v hv => hc v (List.mem_cons_of_mem _ hv)) h0 h1
    simp only
    rw [ih]
    simp
theorem back_floors : ∀ (fs : List Flr) (s : St) (i : Nat), seenOk (s.p.ns.getD 0 0) (s.p.ns.getD 1 0) (s.p.fs.map (·.pre)) (fs.map fun u => (u.pre, u.lv, u.ct)) = true → s.p.fs.length + fs.length ≤ 32 → s.p.ns.getD 0 0 ≤ 16 → (∀ u ∈ fs, u.ct < 18446744073709551616) → s.once.getD 0 false = true → s.once.getD 1 false = true →
    takeAll s i (ones (fs.map flrLn)) = .inl ⟨{ s.p with fs := s.p.fs ++ fs }, s.once⟩
  | [], s, i, _, _, _, _, _, _ => by simp [ones, takeAll]
  | u :: r, s, i, hs, hl, hL, hc, h0, h1 => by
    rw [List.map_cons, seenOk] at hs
    simp only [Bool.and_eq_true, decide_eq_true_eq] at hs
    simp only [List.length_cons] at hl
    have ht := back_floor (s := s) (u := u) (by omega) hs.1.1.2 hs.1.1.1 (hc u List.mem_cons_self) hL hs.1.2 h0 h1
    show takeAll s i ((flrLn u, false) :: ones (r.map flrLn)) = _
    rw [takeAll, ht]
    have ih := back_floors r ⟨{ s.p with fs := s.p.fs ++ [u] }, s.once⟩ (i + 1) (by simpa using hs.2) (by simp; omega) hL (fun v hv => hc v (List.mem_cons_of_mem _ hv)) h0 h1
    simp only
    rw [ih]
    simp
theorem right_ones : ∀ xs : List (List UInt8), (∀ t ∈ xs, (10 : UInt8) ∉ t) → P.right (ones xs) = true
  | [], _ => rfl
  | x :: r, h => by
    show (!(x.contains 10) && !(false && (!(ones r).isEmpty || x.isEmpty)) && P.right (ones r)) = true
    rw [right_ones r (fun t ht => h t (List.mem_cons_of_mem _ ht))]
    have := h x List.mem_cons_self
    simp [this]
theorem plain_no {l : List UInt8} (h : plainB l = true) : (10 : UInt8) ∉ l := fun hm => by
  unfold plainB at h
  simp only [Bool.and_eq_true, List.all_eq_true, decide_eq_true_eq] at h
  have := (h.2 10 hm).1
  simp at this
theorem seen_name {L C : Int} : ∀ (xs : List (List UInt8 × Int × Nat)) (seen : List (List UInt8)), seenOk L C seen xs = true → ∀ x ∈ xs, P.name x.1 = true
  | [], _, _, x, hx => by cases hx
  | y :: r, seen, h, x, hx => by
    rw [seenOk] at h
    simp only [Bool.and_eq_true] at h
    rcases List.mem_cons.1 hx with rfl | hx
    · exact h.1.1.2
    · exact seen_name r _ h.2 x hx
theorem read_back {n0 n1 n2 n3 n4 n5 : Int} {hid : List UInt8} {us : List Usr} {fs : List Flr} (h : polOk [n0, n1, n2, n3, n4, n5] hid us fs = true) (hu : ∀ u ∈ us, u.ct < 18446744073709551616) (hf : ∀ u ∈ fs, u.ct < 18446744073709551616) :
    readAll (P.lines [] (polTxt [n0, n1, n2, n3, n4, n5] hid us fs)) = .inl ⟨[n0, n1, n2, n3, n4, n5], hid, us, fs⟩ := by
  have hall := h
  unfold polOk at h
  simp only [Bool.and_eq_true] at h
  obtain ⟨⟨⟨hn, hp⟩, hus⟩, hfs⟩ := h
  unfold usersOk at hus
  unfold floorsOk at hfs
  simp only [Bool.and_eq_true, decide_eq_true_eq] at hus hfs
  unfold numsOk at hn
  rw [List.all_eq_true] at hn
  have k0 : inB 1 16 n0 = true := hn 0 (by decide)
  have k1 : inB 0 64 n1 = true := hn 1 (by decide)
  have k2 : inB 1 400 n2 = true := hn 2 (by decide)
  have k3 : inB 0 64 n3 = true := hn 3 (by decide)
  have k4 : inB 1 200 n4 = true := hn 4 (by decide)
  have k5 : inB 0 20 n5 = true := hn 5 (by decide)
  have hL : n0 ≤ 16 := by unfold inB at k0; simp only [Bool.and_eq_true, decide_eq_true_eq] at k0; exact k0.2
  have hnl : ∀ t ∈ polLns [n0, n1, n2, n3, n4, n5] hid us fs, (10 : UInt8) ∉ t := by
    intro t ht
    unfold polLns at ht
    simp only [List.mem_append, List.mem_singleton, List.mem_map] at ht
    rcases ht with ((ht | ht) | ⟨u, hm, rfl⟩) | ⟨u, hm, rfl⟩
    · unfold numLns at ht
      obtain ⟨k, hk, rfl⟩ := List.mem_map.1 ht
      have hk6 := List.mem_range.1 hk
      have hkey : (10 : UInt8) ∉ keys.getD k [] := by
        match k, hk6 with
        | 0, _ => decide
        | 1, _ => decide
        | 2, _ => decide
        | 3, _ => decide
        | 4, _ => decide
        | 5, _ => decide
      unfold numLn
      simp only [List.mem_append, List.mem_cons, not_or]
      exact ⟨hkey, by decide, high_no (dec_high _) 10 (by decide)⟩
    · subst ht
      simp only [List.mem_append, List.mem_cons, not_or]
      exact ⟨by decide, by decide, plain_no hp⟩
    · have hnm := seen_name _ _ hus.2 (u.name, u.lv, u.ct) (List.mem_map.2 ⟨u, hm, rfl⟩)
      unfold usrLn
      have hx : (10 : UInt8) ∉ (if u.ad then 32 :: kAdmin else []) := by cases u.ad <;> decide
      simp only [List.mem_append, List.mem_cons, not_or]
      exact ⟨by decide, by decide, high_no (name_high hnm) 10 (by decide), by decide, high_no (print_high _ _) 10 (by decide), hx⟩
    · have hnm := seen_name _ _ hfs.2 (u.pre, u.lv, u.ct) (List.mem_map.2 ⟨u, hm, rfl⟩)
      unfold flrLn
      simp only [List.mem_append, List.mem_cons, not_or]
      exact ⟨by decide, by decide, high_no (name_high hnm) 10 (by decide), by decide, high_no (print_high _ _) 10 (by decide)⟩
  unfold polTxt
  rw [P.lines_join _ (right_ones _ hnl)]
  have s6 : takeAll St.start 0 (ones (numLns [n0, n1, n2, n3, n4, n5] 6)) = .inl ⟨⟨[n0, n1, n2, n3, n4, n5], [], [], []⟩, [true, true, true, true, true, true, false]⟩ := by
    have e0 : take St.start (numLn [n0, n1, n2, n3, n4, n5] 0) = some ⟨⟨[n0, 0, 0, 0, 0, 0], [], [], []⟩, [true, false, false, false, false, false, false]⟩ := back_num (k := 0) (by omega) k0 rfl
    have e1 : take ⟨⟨[n0, 0, 0, 0, 0, 0], [], [], []⟩, [true, false, false, false, false, false, false]⟩ (numLn [n0, n1, n2, n3, n4, n5] 1) = some ⟨⟨[n0, n1, 0, 0, 0, 0], [], [], []⟩, [true, true, false, false, false, false, false]⟩ := back_num (k := 1) (by omega) k1 rfl
    have e2 : take ⟨⟨[n0, n1, 0, 0, 0, 0], [], [], []⟩, [true, true, false, false, false, false, false]⟩ (numLn [n0, n1, n2, n3, n4, n5] 2) = some ⟨⟨[n0, n1, n2, 0, 0, 0], [], [], []⟩, [true, true, true, false, false, false, false]⟩ := back_num (k := 2) (by omega) k2 rfl
    have e3 : take ⟨⟨[n0, n1, n2, 0, 0, 0], [], [], []⟩, [true, true, true, false, false, false, false]⟩ (numLn [n0, n1, n2, n3, n4, n5] 3) = some ⟨⟨[n0, n1, n2, n3, 0, 0], [], [], []⟩, [true, true, true, true, false, false, false]⟩ := back_num (k := 3) (by omega) k3 rfl
    have e4 : take ⟨⟨[n0, n1, n2, n3, 0, 0], [], [], []⟩, [true, true, true, true, false, false, false]⟩ (numLn [n0, n1, n2, n3, n4, n5] 4) = some ⟨⟨[n0, n1, n2, n3, n4, 0], [], [], []⟩, [true, true, true, true, true, false, false]⟩ := back_num (k := 4) (by omega) k4 rfl
    have e5 : take ⟨⟨[n0, n1, n2, n3, n4, 0], [], [], []⟩, [true, true, true, true, true, false, false]⟩ (numLn [n0, n1, n2, n3, n4, n5] 5) = some ⟨⟨[n0, n1, n2, n3, n4, n5], [], [], []⟩, [true, true, true, true, true, true, false]⟩ := back_num (k := 5) (by omega) k5 rfl
    show takeAll St.start 0 [(numLn [n0, n1, n2, n3, n4, n5] 0, false), (numLn [n0, n1, n2, n3, n4, n5] 1, false), (numLn [n0, n1, n2, n3, n4, n5] 2, false), (numLn [n0, n1, n2, n3, n4, n5] 3, false), (numLn [n0, n1, n2, n3, n4, n5] 4, false), (numLn [n0, n1, n2, n3, n4, n5] 5, false)] = _
    simp only [takeAll, e0, e1, e2, e3, e4, e5]
  have s7 : ∀ i, takeAll ⟨⟨[n0, n1, n2, n3, n4, n5], [], [], []⟩, [true, true, true, true, true, true, false]⟩ i (ones [kHidden ++ 32 :: hid]) = .inl ⟨⟨[n0, n1, n2, n3, n4, n5], hid, [], []⟩, [true, true, true, true, true, true, true]⟩ := fun i => by
    have e : take ⟨⟨[n0, n1, n2, n3, n4, n5], [], [], []⟩, [true, true, true, true, true, true, false]⟩ (kHidden ++ 32 :: hid) = some ⟨⟨[n0, n1, n2, n3, n4, n5], hid, [], []⟩, [true, true, true, true, true, true, true]⟩ := back_hidden hp rfl
    show takeAll _ i [(kHidden ++ 32 :: hid, false)] = _
    simp only [takeAll, e]
  have s8 : ∀ i, takeAll ⟨⟨[n0, n1, n2, n3, n4, n5], hid, [], []⟩, [true, true, true, true, true, true, true]⟩ i (ones (us.map usrLn)) = .inl ⟨⟨[n0, n1, n2, n3, n4, n5], hid, us, []⟩, [true, true, true, true, true, true, true]⟩ := fun i =>
    back_users us ⟨⟨[n0, n1, n2, n3, n4, n5], hid, [], []⟩, [true, true, true, true, true, true, true]⟩ i hus.2 (by simpa using hus.1) hL hu rfl rfl
  have s9 : ∀ i, takeAll ⟨⟨[n0, n1, n2, n3, n4, n5], hid, us, []⟩, [true, true, true, true, true, true, true]⟩ i (ones (fs.map flrLn)) = .inl ⟨⟨[n0, n1, n2, n3, n4, n5], hid, us, fs⟩, [true, true, true, true, true, true, true]⟩ := fun i =>
    back_floors fs ⟨⟨[n0, n1, n2, n3, n4, n5], hid, us, []⟩, [true, true, true, true, true, true, true]⟩ i hfs.2 (by simpa using hfs.1) hL hf rfl rfl
  have key : takeAll St.start 0 (ones (polLns [n0, n1, n2, n3, n4, n5] hid us fs)) = .inl ⟨⟨[n0, n1, n2, n3, n4, n5], hid, us, fs⟩, [true, true, true, true, true, true, true]⟩ := by
    unfold polLns
    rw [ones_app, ones_app, ones_app, List.append_assoc, List.append_assoc, takeAll_app _ _ _ _ _ s6, takeAll_app _ _ _ _ _ (s7 _), takeAll_app _ _ _ _ _ (s8 _), s9]
  unfold readAll
  rw [key]
  rfl
end Go.Proofs.YtadhhamfikpimaaDoor.O

namespace Go.Proofs.YtadhhamfikpimaaDoor.O
set_option linter.unusedVariables false
set_option linter.unusedSimpArgs false

theorem seen_snoc {L C : Int} (x : List UInt8 × Int × Nat) : ∀ (xs : List (List UInt8 × Int × Nat)) (seen : List (List UInt8)), seenOk L C seen xs = true → x.1 ∉ seen → x.1 ∉ xs.map (·.1) → P.name x.1 = true → fitsB L C x.2.1 x.2.2 = true → seenOk L C seen (xs ++ [x]) = true
  | [], seen, _, h1, _, h3, h4 => by simp [seenOk, h1, h3, h4]
  | y :: r, seen, h, h1, h2, h3, h4 => by
    rw [seenOk] at h
    simp only [Bool.and_eq_true] at h
    simp only [List.map_cons, List.mem_cons, not_or] at h2
    rw [List.cons_append, seenOk]
    simp only [Bool.and_eq_true]
    exact ⟨h.1, seen_snoc x r (seen ++ [y.1]) h.2 (by simp [h1, h2.1]) h2.2 h3 h4⟩
structure Inv (s : St) : Prop where
  nl : s.p.ns.length = 6
  ol : s.once.length = 7
  nb : ∀ k, k < 6 → s.once.getD k false = true → inB (lows.getD k 0) (highs.getD k 0) (s.p.ns.getD k 0) = true
  hd : s.once.getD 6 false = true → plainB s.p.hid = true
  ul : s.p.us.length ≤ 32
  fl : s.p.fs.length ≤ 32
  ud : (s.p.us = [] ∧ s.p.fs = []) ∨ (s.once.getD 0 false = true ∧ s.once.getD 1 false = true)
  us : seenOk (s.p.ns.getD 0 0) (s.p.ns.getD 1 0) [] (s.p.us.map fun u => (u.name, u.lv, u.ct)) = true
  fs : seenOk (s.p.ns.getD 0 0) (s.p.ns.getD 1 0) [] (s.p.fs.map fun u => (u.pre, u.lv, u.ct)) = true
  uc : ∀ u ∈ s.p.us, u.ct < 18446744073709551616 ∧ -9223372036854775808 ≤ u.lv ∧ u.lv ≤ 9223372036854775807
  fc : ∀ u ∈ s.p.fs, u.ct < 18446744073709551616 ∧ -9223372036854775808 ≤ u.lv ∧ u.lv ≤ 9223372036854775807
theorem start_nb (k : Nat) (hk : k < 6) (h : St.start.once.getD k false = true) : inB (lows.getD k 0) (highs.getD k 0) (St.start.p.ns.getD k 0) = true := by
  match k, hk with
  | 0, _ => cases h
  | 1, _ => cases h
  | 2, _ => cases h
  | 3, _ => cases h
  | 4, _ => cases h
  | 5, _ => cases h
theorem Inv.start : Inv St.start := ⟨rfl, rfl, start_nb, (fun h => by cases h), by decide, by decide, .inl ⟨rfl, rfl⟩, rfl, rfl, (fun u h => by cases h), (fun u h => by cases h)⟩
theorem getD_set {α : Type} (l : List α) (k j : Nat) (v d : α) (hk : k < l.length) : (l.set k v).getD j d = if j = k then v else l.getD j d := by
  rw [List.getD_eq_getElem?_getD, List.getD_eq_getElem?_getD, List.getElem?_set]
  by_cases h : j = k
  · subst h; simp [hk]
  · rw [if_neg (fun e => h e.symm), if_neg h]
theorem Inv.num {s t : St} {k : Nat} {v : List UInt8} (hs : Inv s) (hk : k < 6) (h : numLine s k v = some t) : Inv t := by
  unfold numLine at h
  split at h
  · cases h
  · rename_i ho
    obtain ⟨n, _, hn⟩ := Option.bind_eq_some_iff.1 h
    split at hn
    · rename_i hb
      injection hn with hn
      subst hn
      have hu : (k = 0 ∨ k = 1) → s.p.us = [] ∧ s.p.fs = [] := fun hk' => by
        rcases hs.ud with h0 | ⟨h0, h1⟩
        · exact h0
        · rcases hk' with rfl | rfl
          · exact absurd h0 ho
          · exact absurd h1 ho
      have hkl : k < s.p.ns.length := by rw [hs.nl]; exact hk
      have hko : k < s.once.length := by rw [hs.ol]; omega
      refine ⟨by simp [hs.nl], by simp [hs.ol], fun j hj hjo => ?_, fun h6 => ?_, hs.ul, hs.fl, ?_, ?_, ?_, hs.uc, hs.fc⟩
      · rw [getD_set _ _ _ _ _ hkl]
        rw [getD_set _ _ _ _ _ hko] at hjo
        split
        · rename_i e
          subst e
          unfold inB
          rw [Bool.and_eq_true, decide_eq_true_iff, decide_eq_true_iff]
          exact hb
        · rename_i e
          rw [if_neg e] at hjo
          exact hs.nb j hj hjo
      · rw [getD_set _ _ _ _ _ hko, if_neg (by omega)] at h6
        exact hs.hd h6
      · rcases hs.ud with h0 | ⟨h0, h1⟩
        · exact .inl h0
        · refine .inr ⟨?_, ?_⟩
          · rw [getD_set _ _ _ _ _ hko]; split <;> first | rfl | exact h0
          · rw [getD_set _ _ _ _ _ hko]; split <;> first | rfl | exact h1
      · show seenOk ((s.p.ns.set k (n : Int)).getD 0 0) ((s.p.ns.set k (n : Int)).getD 1 0) [] (s.p.us.map fun u => (u.name, u.lv, u.ct)) = true
        by_cases h01 : k = 0 ∨ k = 1
        · rw [(hu h01).1]; rfl
        · rw [getD_set _ _ _ _ _ hkl, getD_set _ _ _ _ _ hkl, if_neg (by omega), if_neg (by omega)]
          exact hs.us
      · show seenOk ((s.p.ns.set k (n : Int)).getD 0 0) ((s.p.ns.set k (n : Int)).getD 1 0) [] (s.p.fs.map fun u => (u.pre, u.lv, u.ct)) = true
        by_cases h01 : k = 0 ∨ k = 1
        · rw [(hu h01).2]; rfl
        · rw [getD_set _ _ _ _ _ hkl, getD_set _ _ _ _ _ hkl, if_neg (by omega), if_neg (by omega)]
          exact hs.fs
    · cases hn
theorem label_ok {s : St} (hs : Inv s) {w : List UInt8} {a : Nat × Nat} (h : labelFor s w = some a) : fitsB (s.p.ns.getD 0 0) (s.p.ns.getD 1 0) (a.1 : Int) a.2 = true ∧ a.2 < 18446744073709551616 ∧ a.1 ≤ 15 ∧ s.once.getD 0 false = true ∧ s.once.getD 1 false = true := by
  unfold labelFor at h
  split at h
  · rename_i ho
    obtain ⟨b, hb, h2⟩ := Option.bind_eq_some_iff.1 h
    split at h2
    · rename_i hf
      injection h2 with h2
      subst h2
      have := L.print_parse hb
      exact ⟨hf, this.2.1, this.2.2, ho⟩
    · cases h2
  · cases h
theorem Inv.user {s t : St} {nm lb : List UInt8} {ad : Bool} (hs : Inv s) (h : addUser s nm lb ad = some t) : Inv t := by
  unfold addUser at h
  split at h
  · rename_i hc
    obtain ⟨a, ha, rfl⟩ := Option.map_eq_some_iff.1 h
    obtain ⟨h1, h2, h3, h4⟩ := label_ok hs ha
    refine ⟨hs.nl, hs.ol, hs.nb, hs.hd, by simp; omega, hs.fl, .inr h4, ?_, hs.fs, fun u hu => ?_, hs.fc⟩
    · show seenOk _ _ [] ((s.p.us ++ [(⟨nm, a.1, a.2, ad⟩ : Usr)]).map fun u => (u.name, u.lv, u.ct)) = true
      rw [List.map_append]
      refine seen_snoc _ _ _ hs.us (by simp) ?_ hc.2.1 h1
      intro hm
      rw [List.map_map] at hm
      exact hc.2.2 hm
    · rcases List.mem_append.1 hu with hu | hu
      · exact hs.uc u hu
      · rw [List.mem_singleton.1 hu]
        exact ⟨h2, by show (-9223372036854775808 : Int) ≤ (a.1 : Int); omega, by show (a.1 : Int) ≤ 9223372036854775807; omega⟩
  · cases h
theorem Inv.floor {s t : St} {nm lb : List UInt8} (hs : Inv s) (h : (if s.p.fs.length < 32 ∧ P.name nm = true ∧ nm ∉ s.p.fs.map (·.pre) then (labelFor s lb).map fun a => (⟨{ s.p with fs := s.p.fs ++ [⟨nm, a.1, a.2⟩] }, s.once⟩ : St) else none) = some t) : Inv t := by
  split at h
  · rename_i hc
    obtain ⟨a, ha, rfl⟩ := Option.map_eq_some_iff.1 h
    obtain ⟨h1, h2, h3, h4⟩ := label_ok hs ha
    refine ⟨hs.nl, hs.ol, hs.nb, hs.hd, hs.ul, by simp; omega, .inr h4, hs.us, ?_, hs.uc, fun u hu => ?_⟩
    · show seenOk _ _ [] ((s.p.fs ++ [(⟨nm, a.1, a.2⟩ : Flr)]).map fun u => (u.pre, u.lv, u.ct)) = true
      rw [List.map_append]
      refine seen_snoc _ _ _ hs.fs (by simp) ?_ hc.2.1 h1
      intro hm
      rw [List.map_map] at hm
      exact hc.2.2 hm
    · rcases List.mem_append.1 hu with hu | hu
      · exact hs.fc u hu
      · rw [List.mem_singleton.1 hu]
        exact ⟨h2, by show (-9223372036854775808 : Int) ≤ (a.1 : Int); omega, by show (a.1 : Int) ≤ 9223372036854775807; omega⟩
  · cases h
theorem Inv.take {s t : St} {l : List UInt8} (hs : Inv s) (h : take s l = some t) : Inv t := by
  unfold O.take at h
  split at h
  · injection h with h; subst h; exact hs
  split at h
  · unfold takeHidden at h
    split at h
    · rename_i hc
      injection h with h
      subst h
      have hko : 6 < s.once.length := by rw [hs.ol]; omega
      refine ⟨hs.nl, by simp [hs.ol], fun j hj hjo => ?_, fun _ => hc.2.1, hs.ul, hs.fl, ?_, hs.us, hs.fs, hs.uc, hs.fc⟩
      · rw [getD_set _ _ _ _ _ hko, if_neg (by omega)] at hjo
        exact hs.nb j hj hjo
      · rcases hs.ud with h0 | ⟨h0, h1⟩
        · exact .inl h0
        · exact .inr ⟨by rw [getD_set _ _ _ _ _ hko, if_neg (by omega)]; exact h0, by rw [getD_set _ _ _ _ _ hko, if_neg (by omega)]; exact h1⟩
    · cases h
  split at h
  · unfold takeUser at h
    split at h
    · exact hs.user h
    · split at h
      · exact hs.user h
      · cases h
    · cases h
  split at h
  · unfold takeFloor at h
    split at h
    · exact hs.floor h
    · cases h
  · unfold takeNumber at h
    split at h
    · obtain ⟨k, hk, h2⟩ := Option.bind_eq_some_iff.1 h
      have hk6 : k < 6 := by
        unfold keyOf at hk
        obtain ⟨h1, -⟩ := List.idxOf?_eq_some_iff.1 hk
        exact h1
      exact hs.num hk6 h2
    · cases h
theorem Inv.all : ∀ (ls : List (List UInt8 × Bool)) (s t : St) (i : Nat), Inv s → takeAll s i ls = .inl t → Inv t
  | [], s, t, i, hs, h => by rw [takeAll] at h; injection h with h; subst h; exact hs
  | x :: r, s, t, i, hs, h => by
    rw [takeAll] at h
    cases ht : O.take s x.1 with
    | none => rw [ht] at h; cases h
    | some u => rw [ht] at h; exact Inv.all r u t (i + 1) (hs.take ht) h
theorem read_right {ls : List (List UInt8 × Bool)} {p : Pol} (h : readAll ls = .inl p) : polOk p.ns p.hid p.us p.fs = true ∧ p.ns.length = 6 ∧ (∀ u ∈ p.us, u.ct < 18446744073709551616 ∧ -9223372036854775808 ≤ u.lv ∧ u.lv ≤ 9223372036854775807) ∧ ∀ u ∈ p.fs, u.ct < 18446744073709551616 ∧ -9223372036854775808 ≤ u.lv ∧ u.lv ≤ 9223372036854775807 := by
  unfold readAll at h
  cases ht : takeAll St.start 0 ls with
  | inr k => rw [ht] at h; cases h
  | inl s =>
    rw [ht] at h
    simp only at h
    split at h
    · rename_i hal
      injection h with h
      subst h
      have hs := Inv.all _ _ _ _ Inv.start ht
      rw [List.all_eq_true] at hal
      have hon : ∀ k, k < 7 → s.once.getD k false = true := fun k hk => by
        have hl := hs.ol
        rw [List.getD_eq_getElem?_getD, List.getElem?_eq_getElem (by omega)]
        exact hal _ (List.getElem_mem (by omega))
      refine ⟨?_, hs.nl, hs.uc, hs.fc⟩
      unfold polOk usersOk floorsOk numsOk
      simp only [Bool.and_eq_true, List.all_eq_true, decide_eq_true_eq]
      exact ⟨⟨⟨fun k hk => hs.nb k (List.mem_range.1 hk) (hon k (by have := List.mem_range.1 hk; omega)), hs.hd (hon 6 (by omega))⟩, hs.ul, hs.us⟩, hs.fl, hs.fs⟩
    · cases h
end Go.Proofs.YtadhhamfikpimaaDoor.O
