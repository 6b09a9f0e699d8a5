/-
  Layer 21, plain: what was printed is read as it was; what was read is printed as it stood.
  Layer 21: Read, Parse.
-/
import Derived.Test.YtddakaeacgojmaaDoorGwd
import Derived.Test.YtddakaeacgojmaaDoorGwg
import Derived.Lib.SlBytesConst
namespace Go.Proofs.YtddakaeacgojmaaDoor.Wr
set_option linter.unusedVariables false
set_option linter.unusedSimpArgs false
open T

theorem dec_high (n : Int) : ∀ x ∈ P.decimal n, 33 ≤ x.toNat := by
  have hd : ∀ u : Nat, ∀ x ∈ Lib.decDigits u, 48 ≤ x.toNat := by
    intro u
    induction u using Nat.strongRecOn with
    | ind u ih =>
      intro x hx
      rw [Lib.decDigits] at hx
      split at hx
      · next h => rw [List.mem_singleton.1 hx, P.digit u h]; omega
      · next h =>
        rw [List.mem_append] at hx
        rcases hx with hx | hx
        · exact ih (u / 10) (by omega) x hx
        · rw [List.mem_singleton.1 hx, P.digit _ (by omega)]; omega
  intro x hx
  unfold P.decimal at hx
  split at hx
  · rw [List.mem_singleton.1 hx]; decide
  · have := hd _ x hx; omega
theorem join_high {sep : List UInt8} (hs : ∀ x ∈ sep, 33 ≤ x.toNat) : ∀ xs : List (List UInt8), (∀ t ∈ xs, ∀ x ∈ t, 33 ≤ x.toNat) → ∀ x ∈ Lib.join xs sep, 33 ≤ x.toNat
  | [], _, x, hx => by simp [Lib.join] at hx
  | [a], h, x, hx => by simp [Lib.join] at hx; exact h a (by simp) x hx
  | a :: b :: r, h, x, hx => by
    have e : Lib.join (a :: b :: r) sep = a ++ (sep ++ Lib.join (b :: r) sep) := by simp [Lib.join]
    rw [e, List.mem_append, List.mem_append] at hx
    rcases hx with hx | hx | hx
    · exact h a (by simp) x hx
    · exact hs x hx
    · exact join_high hs (b :: r) (fun t ht => h t (List.mem_cons_of_mem _ ht)) x hx
theorem print_high (l : Int) (c : Nat) : ∀ x ∈ L.print l c, 33 ≤ x.toNat := by
  intro x hx
  unfold L.print at hx
  split at hx
  · exact dec_high l x hx
  · rw [List.mem_append, List.mem_append] at hx
    rcases hx with (hx | hx) | hx
    · exact dec_high l x hx
    · rw [List.mem_singleton.1 hx]; decide
    · unfold L.catsText at hx
      refine join_high (fun y hy => by rw [List.mem_singleton.1 hy]; decide) _ (fun t ht => ?_) x hx
      obtain ⟨n, _, rfl⟩ := List.mem_map.1 ht
      exact dec_high _
theorem name_high {l : List UInt8} (h : P.name l = true) : ∀ x ∈ l, 33 ≤ x.toNat := by
  unfold P.name at h
  simp only [Bool.and_eq_true, List.all_eq_true, decide_eq_true_eq] at h
  exact fun x hx => (h.2 x hx).1
theorem wds_high : ∀ j, (hj : j < 12) → ∀ x ∈ wds[j]'hj, 33 ≤ x.toNat := by decide
theorem wrd_high (v : Int) : ∀ x ∈ wrd v, 33 ≤ x.toNat := by
  intro x hx
  by_cases h : 0 ≤ v ∧ v < 12
  · have e : v = ((v.toNat : Nat) : Int) := by omega
    rw [e, wrd_at _ (by omega)] at hx
    exact wds_high _ _ x hx
  · rw [wrd, if_neg h] at hx; cases hx

theorem words_cons : ∀ (l cur : List UInt8), ∃ w r, P.words cur l = w :: r
  | [], cur => ⟨cur, [], rfl⟩
  | c :: l, cur => by
    rw [P.words]
    split
    · exact ⟨_, _, rfl⟩
    · exact words_cons l _
theorem glu_words : ∀ (l cur : List UInt8), glu (P.words cur l) = cur ++ l
  | [], cur => by simp [P.words, glu]
  | c :: l, cur => by
    rw [P.words]
    by_cases h : c = 32
    · rw [if_pos h]
      have ih := glu_words l []
      obtain ⟨w, r, e⟩ := words_cons l []
      rw [e] at ih ⊢
      rw [glu, ih, h, List.nil_append]
    · rw [if_neg h, glu_words l (cur ++ [c])]; simp
theorem words_at (r : List UInt8) : ∀ (t cur : List UInt8), (32 : UInt8) ∉ t → P.words cur (t ++ 32 :: r) = (cur ++ t) :: P.words [] r
  | [], cur, _ => by simp [P.words]
  | c :: t, cur, h => by
    have hc : ¬ c = 32 := fun e => h (by simp [e])
    rw [List.cons_append, P.words, if_neg hc, words_at r t _ (fun e => h (by simp [e]))]; simp
theorem words_no : ∀ (t cur : List UInt8), (32 : UInt8) ∉ t → P.words cur t = [cur ++ t]
  | [], cur, _ => by simp [P.words]
  | c :: t, cur, h => by
    have hc : ¬ c = 32 := fun e => h (by simp [e])
    rw [P.words, if_neg hc, words_no t _ (fun e => h (by simp [e]))]; simp
/-- Words that hold no blank, put together, come apart again. -/
theorem words_glu : ∀ (ws : List (List UInt8)), ws ≠ [] → (∀ w ∈ ws, ∀ x ∈ w, 33 ≤ x.toNat) → P.words [] (glu ws) = ws
  | [], h, _ => absurd rfl h
  | [w], _, h => by
    rw [glu, words_no w [] (fun hm => by have := h w (by simp) _ hm; revert this; decide)]; rfl
  | w :: y :: r, _, h => by
    rw [glu, words_at _ w [] (fun hm => by have := h w (by simp) _ hm; revert this; decide), words_glu (y :: r) (by simp) (fun z hz => h z (List.mem_cons_of_mem _ hz))]; rfl
theorem glu_high : ∀ (ws : List (List UInt8)), (∀ w ∈ ws, ∀ x ∈ w, 33 ≤ x.toNat) → ∀ x ∈ glu ws, x ≠ 10
  | [], _, x, hx => by simp [glu] at hx
  | [w], h, x, hx => fun e => by have := h w (by simp) x hx; rw [e] at this; revert this; decide
  | w :: y :: r, h, x, hx => by
    rw [glu, List.mem_append, List.mem_cons] at hx
    rcases hx with hx | rfl | hx
    · exact fun e => by have := h w (by simp) x hx; rw [e] at this; revert this; decide
    · decide
    · exact glu_high (y :: r) (fun z hz => h z (List.mem_cons_of_mem _ hz)) x hx
theorem glu_join : ∀ (ws : List (List UInt8)), Lib.join ws [32] = glu ws
  | [] => by simp [Lib.join, glu]
  | [w] => by simp [Lib.join, glu]
  | w :: y :: r => by
    have e : Lib.join (w :: y :: r) [32] = w ++ ([32] ++ Lib.join (y :: r) [32]) := by simp [Lib.join]
    rw [e, glu, glu_join (y :: r)]; rfl

theorem split_back (c : UInt8) : ∀ (l a b : List UInt8), L.split c l = some (a, b) → l = a ++ c :: b
  | [], a, b, h => by simp [L.split] at h
  | x :: l, a, b, h => by
    rw [L.split] at h
    by_cases hc : x = c
    · rw [if_pos hc] at h
      injection h with h
      injection h with h1 h2
      subst h1 h2 hc; rfl
    · rw [if_neg hc] at h
      cases hs : L.split c l with
      | none => rw [hs] at h; cases h
      | some p =>
        rw [hs] at h
        injection h with h
        injection h with h1 h2
        subst h1 h2
        rw [split_back c l p.1 p.2 hs]; rfl

/-- The eleven verbs. -/
theorem verbs {v : Int} (h : wrd v ≠ []) : v = 1 ∨ v = 2 ∨ v = 3 ∨ v = 4 ∨ v = 5 ∨ v = 6 ∨ v = 7 ∨ v = 8 ∨ v = 9 ∨ v = 10 ∨ v = 11 := by
  have := (wrd_in v).1 h
  omega
theorem vrb_is {v : Int} (h : wrd v ≠ []) : vrb (wrd v) = v := by
  rcases verbs h with rfl | rfl | rfl | rfl | rfl | rfl | rfl | rfl | rfl | rfl | rfl <;> decide
theorem sg1 : sg 1 = [] := rfl
theorem sg2 : sg 2 = [70] := rfl
theorem sg3 : sg 3 = [70, 65] := rfl
theorem sg4 : sg 4 = [70, 65] := rfl
theorem sg5 : sg 5 = [70, 65, 66, 67] := rfl
theorem sg6 : sg 6 = [70, 65, 43] := rfl
theorem sg7 : sg 7 = [70, 65, 43] := rfl
theorem sg8 : sg 8 = [] := rfl
theorem sg9 : sg 9 = [70, 43] := rfl
theorem sg10 : sg 10 = [70] := rfl
theorem sg11 : sg 11 = [70] := rfl

theorem num_back {n : Int} (h : okN n = true) : P.number (P.decimal n) = some n.toNat ∧ ((n.toNat : Nat) : Int) = n := by
  unfold okN at h
  have h0 : 0 ≤ n ∧ n ≤ 2147483647 := by
    simp at h; omega
  exact ⟨P.number_decimal n h0.1 h0.2, by omega⟩

/-- A request that is right: what its signs name is right, what they don't is nothing. -/
theorem run_f {r : Rq} {s : List UInt8} {q : Rq → Bool} (h : (match run r (70 :: s) with | some r' => q r' | none => false) = true) :
    isF r.fi = true ∧ (match run { r with fi := [] } s with | some r' => q r' | none => false) = true := by
  rw [run, stp, if_pos rfl] at h
  cases hf : isF r.fi with
  | false => rw [hf] at h; cases h
  | true => rw [hf] at h; exact ⟨rfl, h⟩
theorem run_p {r : Rq} {s : List UInt8} {q : Rq → Bool} (h : (match run r (43 :: s) with | some r' => q r' | none => false) = true) :
    (match run { r with bo := [] } s with | some r' => q r' | none => false) = true := by
  rw [run, stp, if_neg (by decide), if_pos rfl] at h; exact h
theorem run_a {r : Rq} {s : List UInt8} {q : Rq → Bool} (h : (match run r (65 :: s) with | some r' => q r' | none => false) = true) :
    okN r.a = true ∧ (match run { r with a := 0 } s with | some r' => q r' | none => false) = true := by
  rw [run, stp, if_neg (by decide), if_neg (by decide), if_pos rfl] at h
  cases hf : okN r.a with
  | false => rw [hf] at h; cases h
  | true => rw [hf] at h; exact ⟨rfl, h⟩
theorem run_b {r : Rq} {s : List UInt8} {q : Rq → Bool} (h : (match run r (66 :: s) with | some r' => q r' | none => false) = true) :
    okN r.b = true ∧ (match run { r with b := 0 } s with | some r' => q r' | none => false) = true := by
  rw [run, stp, if_neg (by decide), if_neg (by decide), if_neg (by decide), if_pos rfl] at h
  cases hf : okN r.b with
  | false => rw [hf] at h; cases h
  | true => rw [hf] at h; exact ⟨rfl, h⟩
theorem run_c {r : Rq} {s : List UInt8} {q : Rq → Bool} (h : (match run r (67 :: s) with | some r' => q r' | none => false) = true) :
    okN r.c = true ∧ (match run { r with c := 0 } s with | some r' => q r' | none => false) = true := by
  rw [run, stp, if_neg (by decide), if_neg (by decide), if_neg (by decide), if_neg (by decide)] at h
  cases hf : okN r.c with
  | false => rw [hf] at h; cases h
  | true => rw [hf] at h; exact ⟨rfl, h⟩
theorem run_e {r : Rq} (h : (match run r [] with | some r' => zer r' | none => false) = true) : r.fi = [] ∧ r.a = 0 ∧ r.b = 0 ∧ r.c = 0 ∧ r.bo = [] := by
  change zer r = true at h
  unfold zer at h
  simpa [and_assoc] using h
theorem fil_e (r : Rq) : fil r [] [] = some r := rfl
theorem fil_f (r : Rq) (s : List UInt8) (w : List UInt8) (t : List (List UInt8)) : fil r (70 :: s) (w :: t) = fil { r with fi := w } s t := by
  rw [fil, if_neg (by decide)]; rfl
theorem fil_p (r : Rq) (s : List UInt8) (t : List (List UInt8)) : fil r (43 :: s) t = fil r s t := by
  rw [fil.eq_def]; simp
theorem fil_n (r : Rq) (x : UInt8) (hx : ¬ x = 43) (h7 : ¬ x = 70) (s : List UInt8) (n : Int) (hn : okN n = true) (t : List (List UInt8)) :
    fil r (x :: s) (P.decimal n :: t) = fil (if x = 65 then { r with a := n } else if x = 66 then { r with b := n } else { r with c := n }) s t := by
  rw [fil, if_neg hx]
  simp only [put, if_neg h7, (num_back hn).1]
  rw [(num_back hn).2]
  by_cases h1 : x = 65
  · rw [if_pos h1, if_pos h1]
  · rw [if_neg h1, if_neg h1]
    by_cases h2 : x = 66
    · rw [if_pos h2, if_pos h2]
    · rw [if_neg h2, if_neg h2]

/-- What is laid of a right request's words is that request without its bytes. -/
theorem fil_back (r : Rq) (hw : wrd r.vb ≠ []) (hn : nms r = true) :
    fil ⟨r.vb, r.lv, r.ct, [], 0, 0, 0, []⟩ (sg r.vb) ((sg r.vb).flatMap (wof r)) = some { r with bo := [] } := by
  obtain ⟨vb, lv, ct, fi, a, b, c, bo⟩ := r
  simp only [] at hw hn ⊢
  unfold nms at hn
  simp only [] at hn
  rcases verbs hw with rfl | rfl | rfl | rfl | rfl | rfl | rfl | rfl | rfl | rfl | rfl
  · rw [sg1] at hn ⊢
    obtain ⟨e1, e2, e3, e4, e5⟩ := run_e hn
    simp only [] at e1 e2 e3 e4 e5; subst e1 e2 e3 e4; rfl
  · rw [sg2] at hn ⊢
    obtain ⟨hf, hn⟩ := run_f hn
    obtain ⟨e1, e2, e3, e4, e5⟩ := run_e hn
    simp only [] at e1 e2 e3 e4 e5; subst e2 e3 e4
    show fil _ [70] [fi] = _
    rw [fil_f]; rfl
  · rw [sg3] at hn ⊢
    obtain ⟨hf, hn⟩ := run_f hn
    obtain ⟨ha, hn⟩ := run_a hn
    obtain ⟨e1, e2, e3, e4, e5⟩ := run_e hn
    simp only [] at e1 e2 e3 e4 e5 ha; subst e3 e4
    show fil _ [70, 65] [fi, P.decimal a] = _
    rw [fil_f, fil_n _ _ (by decide) (by decide) _ _ ha]; rfl
  · rw [sg4] at hn ⊢
    obtain ⟨hf, hn⟩ := run_f hn
    obtain ⟨ha, hn⟩ := run_a hn
    obtain ⟨e1, e2, e3, e4, e5⟩ := run_e hn
    simp only [] at e1 e2 e3 e4 e5 ha; subst e3 e4
    show fil _ [70, 65] [fi, P.decimal a] = _
    rw [fil_f, fil_n _ _ (by decide) (by decide) _ _ ha]; rfl
  · rw [sg5] at hn ⊢
    obtain ⟨hf, hn⟩ := run_f hn
    obtain ⟨ha, hn⟩ := run_a hn
    obtain ⟨hb, hn⟩ := run_b hn
    obtain ⟨hc, hn⟩ := run_c hn
    simp only [] at ha hb hc
    show fil _ [70, 65, 66, 67] [fi, P.decimal a, P.decimal b, P.decimal c] = _
    rw [fil_f, fil_n _ _ (by decide) (by decide) _ _ ha, fil_n _ _ (by decide) (by decide) _ _ hb, fil_n _ _ (by decide) (by decide) _ _ hc]; rfl
  · rw [sg6] at hn ⊢
    obtain ⟨hf, hn⟩ := run_f hn
    obtain ⟨ha, hn⟩ := run_a hn
    have hn := run_p (s := []) (q := zer) hn
    obtain ⟨e1, e2, e3, e4, e5⟩ := run_e hn
    simp only [] at e1 e2 e3 e4 e5 ha; subst e3 e4
    show fil _ [70, 65, 43] [fi, P.decimal a] = _
    rw [fil_f, fil_n _ _ (by decide) (by decide) _ _ ha, fil_p]; rfl
  · rw [sg7] at hn ⊢
    obtain ⟨hf, hn⟩ := run_f hn
    obtain ⟨ha, hn⟩ := run_a hn
    have hn := run_p (s := []) (q := zer) hn
    obtain ⟨e1, e2, e3, e4, e5⟩ := run_e hn
    simp only [] at e1 e2 e3 e4 e5 ha; subst e3 e4
    show fil _ [70, 65, 43] [fi, P.decimal a] = _
    rw [fil_f, fil_n _ _ (by decide) (by decide) _ _ ha, fil_p]; rfl
  · rw [sg8] at hn ⊢
    obtain ⟨e1, e2, e3, e4, e5⟩ := run_e hn
    simp only [] at e1 e2 e3 e4 e5; subst e1 e2 e3 e4; rfl
  · rw [sg9] at hn ⊢
    obtain ⟨hf, hn⟩ := run_f hn
    have hn := run_p (s := []) (q := zer) hn
    obtain ⟨e1, e2, e3, e4, e5⟩ := run_e hn
    simp only [] at e1 e2 e3 e4 e5; subst e2 e3 e4
    show fil _ [70, 43] [fi] = _
    rw [fil_f, fil_p]; rfl
  · rw [sg10] at hn ⊢
    obtain ⟨hf, hn⟩ := run_f hn
    obtain ⟨e1, e2, e3, e4, e5⟩ := run_e hn
    simp only [] at e1 e2 e3 e4 e5; subst e2 e3 e4
    show fil _ [70] [fi] = _
    rw [fil_f]; rfl
  · rw [sg11] at hn ⊢
    obtain ⟨hf, hn⟩ := run_f hn
    obtain ⟨e1, e2, e3, e4, e5⟩ := run_e hn
    simp only [] at e1 e2 e3 e4 e5; subst e2 e3 e4
    show fil _ [70] [fi] = _
    rw [fil_f]; rfl

theorem file_of (r : Rq) (hw : wrd r.vb ≠ []) (hn : nms r = true) (hm : (70 : UInt8) ∈ sg r.vb) : P.name r.fi = true := by
  obtain ⟨vb, lv, ct, fi, a, b, c, bo⟩ := r
  simp only [] at hw hn hm ⊢
  cases hf : isF fi with
  | true => unfold isF at hf; simp only [Bool.and_eq_true] at hf; exact hf.1
  | false =>
    rcases verbs hw with rfl | rfl | rfl | rfl | rfl | rfl | rfl | rfl | rfl | rfl | rfl <;>
      first | (exfalso; revert hm; decide) | (simp [nms, sg2, sg3, sg4, sg5, sg6, sg7, sg9, sg10, sg11, run, stp, hf] at hn)
theorem lws_high (r : Rq) (hw : wrd r.vb ≠ []) (hn : nms r = true) : ∀ w ∈ lws r, ∀ x ∈ w, 33 ≤ x.toNat := by
  intro w hm
  unfold lws at hm
  rcases List.mem_cons.1 hm with rfl | hm
  · exact wrd_high _
  rcases List.mem_cons.1 hm with rfl | hm
  · exact print_high _ _
  obtain ⟨x, hx, hm⟩ := List.mem_flatMap.1 hm
  unfold wof at hm
  split at hm
  · next e => rw [List.mem_singleton.1 hm]; exact name_high (file_of r hw hn (by rw [← e]; exact hx))
  split at hm
  · rw [List.mem_singleton.1 hm]; exact dec_high _
  split at hm
  · rw [List.mem_singleton.1 hm]; exact dec_high _
  split at hm
  · rw [List.mem_singleton.1 hm]; exact dec_high _
  · cases hm

theorem chk_ok {r : Rq} (h : chk r = 0) : wrd r.vb ≠ [] ∧ L.rightB r.lv = true ∧ nms r = true ∧ r.bo.length ≤ 32768 := by
  unfold chk at h
  split at h
  · cases h
  · next h1 =>
    split at h
    · cases h
    · next h2 =>
      refine ⟨fun e => h1 (.inl e), ?_, ?_, by omega⟩
      · cases hb : L.rightB r.lv with
        | true => rfl
        | false => exact absurd (.inr (.inl hb)) h1
      · cases hb : nms r with
        | true => rfl
        | false => exact absurd (.inr (.inr hb)) h1

/-- PARSE OF PRINT. -/
theorem prs_prn (r : Rq) (hct : r.ct < 18446744073709551616) (h : chk r = 0) : prs (prn r) = .inl r := by
  obtain ⟨hw, hl, hn, hb⟩ := chk_ok h
  have hl2 : ((r.lv.toNat : Nat) : Int) = r.lv := by
    unfold L.rightB at hl; simp at hl; omega
  unfold prs prn
  rw [L.split_at (glu_high _ (lws_high r hw hn))]
  show (match req (P.words [] (glu (lws r))) with | none => _ | some r0 => _) = _
  rw [words_glu _ (by unfold lws; simp) (lws_high r hw hn)]
  have e : req (lws r) = some { r with bo := [] } := by
    show (match L.parse (L.print r.lv r.ct) with | some (lv, ct) => fil ⟨vrb (wrd r.vb), lv, ct, [], 0, 0, 0, []⟩ (sg (vrb (wrd r.vb))) ((sg r.vb).flatMap (wof r)) | none => none) = _
    rw [L.parse_print r.lv r.ct hct hl]
    show fil ⟨vrb (wrd r.vb), (r.lv.toNat : Nat), r.ct, [], 0, 0, 0, []⟩ (sg (vrb (wrd r.vb))) ((sg r.vb).flatMap (wof r)) = _
    rw [vrb_is hw, hl2]
    exact fil_back r hw hn
  rw [e]
  show (if chk r = 0 then _ else _) = _
  rw [if_pos h]

theorem fnd_at {x : List UInt8} : ∀ {l : List (List UInt8)} {n k : Nat}, fnd x l n = some k → n ≤ k ∧ l[k - n]? = some x
  | [], _, _, h => by cases h
  | y :: r, n, k, h => by
    rw [fnd] at h
    by_cases e : y = x
    · rw [if_pos e] at h
      injection h with h
      subst h e
      simp
    · rw [if_neg e] at h
      obtain ⟨h1, h2⟩ := fnd_at h
      refine ⟨by omega, ?_⟩
      have e2 : k - n = (k - (n + 1)) + 1 := by omega
      rw [e2, List.getElem?_cons_succ]; exact h2
theorem vrb_back (w : List UInt8) (h : vrb w ≠ 0) : wrd (vrb w) = w := by
  unfold vrb at h ⊢
  cases hf : fnd w (wds.drop 1) 1 with
  | none => rw [hf] at h; exact absurd rfl h
  | some n =>
    obtain ⟨h1, h2⟩ := fnd_at hf
    show wrd (n : Int) = w
    rw [List.getElem?_drop, show 1 + (n - 1) = n by omega] at h2
    obtain ⟨h3, h4⟩ := List.getElem?_eq_some_iff.1 h2
    rw [wrd_at n (by rw [wds_len] at h3; exact h3)]; exact h4
theorem ern_back (w : List UInt8) (n : Nat) (h : ern w = some n) : n < 15 ∧ cod n = w := by
  obtain ⟨_, h2⟩ := fnd_at h
  obtain ⟨h3, h4⟩ := List.getElem?_eq_some_iff.1 h2
  rw [cds_len] at h3
  exact ⟨by omega, by rw [cod_at n (by omega)]; exact h4⟩

theorem fil_nil {r r0 : Rq} {t : List (List UInt8)} (h : fil r [] t = some r0) : t = [] ∧ r0 = r := by
  cases t with
  | nil => exact ⟨rfl, (Option.some.inj h).symm⟩
  | cons a b => cases h
theorem fil_body {r r0 : Rq} {s : List UInt8} {t : List (List UInt8)} (h : fil r (43 :: s) t = some r0) : fil r s t = some r0 := by
  rw [fil.eq_def] at h; simpa using h
theorem fil_cons {r r0 : Rq} {x : UInt8} {s : List UInt8} {t : List (List UInt8)} (hx : ¬ x = 43) (h : fil r (x :: s) t = some r0) :
    ∃ w t' r', t = w :: t' ∧ put r x w = some r' ∧ fil r' s t' = some r0 := by
  rw [fil.eq_def] at h
  simp only [hx, if_false] at h
  cases t with
  | nil => cases h
  | cons w t' =>
    simp only [] at h
    cases hp : put r x w with
    | none => rw [hp] at h; cases h
    | some r' => rw [hp] at h; exact ⟨w, t', r', rfl, hp, h⟩
theorem put_file {r r' : Rq} {w : List UInt8} (h : put r 70 w = some r') : r' = { r with fi := w } := (Option.some.inj h).symm
theorem put_num {r r' : Rq} {x : UInt8} {w : List UInt8} (hx : ¬ x = 70) (h : put r x w = some r') :
    ∃ n : Nat, P.decimal n = w ∧ r' = (if x = 65 then { r with a := n } else if x = 66 then { r with b := n } else { r with c := n }) := by
  unfold put at h
  rw [if_neg hx] at h
  cases hn : P.number w with
  | none => rw [hn] at h; cases h
  | some n =>
    rw [hn] at h
    refine ⟨n, P.decimal_number w n hn, ?_⟩
    simp only [] at h
    by_cases h1 : x = 65
    · rw [if_pos h1] at h ⊢; exact (Option.some.inj h).symm
    · rw [if_neg h1] at h ⊢
      by_cases h2 : x = 66
      · rw [if_pos h2] at h ⊢; exact (Option.some.inj h).symm
      · rw [if_neg h2] at h ⊢; exact (Option.some.inj h).symm

end Go.Proofs.YtddakaeacgojmaaDoor.Wr

namespace Go.Proofs.YtddakaeacgojmaaDoor.Wr
set_option linter.unusedVariables false
set_option linter.unusedSimpArgs false
open Go.RowKit
open T L

/-- A response as the cells of its block. -/
def RpAt (W : World) (g : Nat) (e : Int) (B : Option Addr) (n m : Nat) : Prop := W.heap[g]? = some (.cells #[.int .i64 e, .slice B n m] 42 (0, 0))
theorem RpAt.c0 {W : World} {g : Nat} {e : Int} {B : Option Addr} {n m : Nat} (h : RpAt W g e B n m) : W.cell? ⟨g, 0, none⟩ = some (.int .i64 e) := blk_cell h 0
theorem RpAt.c1 {W : World} {g : Nat} {e : Int} {B : Option Addr} {n m : Nat} (h : RpAt W g e B n m) : W.cell? ⟨g, 1, none⟩ = some (.slice B n m) := blk_cell h 1
theorem rp_all {W : World} {g : Nat} {e : Int} {B : Option Addr} {n m : Nat} (h : RpAt W g e B n m) {e' : Int} {B' : Option Addr} {n' m' : Nat} :
    RpAt ((W.setCell ⟨g, 0, none⟩ (.int .i64 e')).setCell ⟨g, 1, none⟩ (.slice B' n' m')) g e' B' n' m' := by
  have h1 : (W.setCell ⟨g, 0, none⟩ (.int .i64 e')).heap[g]? = some (.cells #[.int .i64 e', .slice B n m] 42 (0, 0)) := blk_set h 0 _
  exact blk_set h1 1 _
/-- A row of the call's own, whatever is stored into a block below its base; and over a lower base. -/
theorem own_far {W : World} {base g i : Nat} {u : Value} {e : TypeId} {size n : Nat} {v : Value} {xs : List Value} (h : W.ownsRow base e size v n xs) (hg : g < base) : (W.setCell ⟨g, i, none⟩ u).ownsRow base e size v n xs := by
  refine ⟨h.1, ?_⟩
  rcases h.2 with h2 | ⟨q, cap, cur, fz, h3, h4, h5⟩
  · exact .inl h2
  · exact .inr ⟨q, cap, cur, fz, h3, (blk_far (by omega) _).trans h4, h5⟩
theorem own_low {W : World} {base base' : Nat} {e : TypeId} {size n : Nat} {v : Value} {xs : List Value} (h : W.ownsRow base e size v n xs) (hb : base' ≤ base) : W.ownsRow base' e size v n xs := by
  refine ⟨h.1, ?_⟩
  rcases h.2 with h2 | ⟨q, cap, cur, fz, h3, h4, h5⟩
  · exact .inl h2
  · exact .inr ⟨q, cap, cur, fz, by omega, h4, h5⟩

def RsEnd (base : Nat) (o : Option (Nat × List UInt8)) (e : Ending) (w' : World) : Prop := match o with
  | some (n, t) => ∃ A c, e = .returned (.tuple #[.agg #[.int .i64 (n : Int), .slice A t.length c], .int .i64 0]) ∧ w'.ownsRow base 5 1 (.slice A t.length c) t.length (byteCells t)
  | none => e = .returned (.tuple #[.agg #[.int .i64 0, .slice none 0 0], .int .i64 3])
set_option maxHeartbeats 4000000 in
set_option maxRecDepth 100000 in
theorem read_any (A : Option Addr) (cap : Nat) (l : List UInt8) (w : World) (hK : Kt w) (hB : Bz w A cap l) (hl : l.length ≤ 140737488355328) :
    Calls Tryd.prog 19 #[.slice A l.length cap] w fun e w' => RsEnd w.heap.size (rd l) e w' ∧ Below w.heap.size w w' := by
  have HR := Lib.hid (show rd l = match split 10 l with | none => none | some (h, t) => match ern h with | some e => some (e, t) | none => none from rfl)
  generalize rd l = res at *
  have kc := fun (w : World) (C : Array Value) (n c : Nat) => Lib.run_convert_bytes_const (P := Tryd.prog) w 26 5 C n c Tryd.underlying26 Tryd.underlying5
  obtain ⟨W1, hW1⟩ : ∃ W : World, W = w.alloc (.cells #[.int .i64 0, .slice none 0 0] 42) := ⟨_, rfl⟩
  have HX : RpAt W1 w.heap.size 0 none 0 0 := by rw [hW1]; exact Array.getElem?_push_size
  have HB1 : Below w.heap.size w W1 := by rw [hW1]; exact alloc1 _ _
  have ha : Below W1.heap.size W1 (W1.alloc (.cells #[.int .u8 10] 5 (1, 2))) := alloc1 _ _
  have HB2 := Lib.hid (HB1.trans (ha.mono HB1.size))
  have HX2 := Lib.hid (show RpAt (W1.alloc (.cells #[.int .u8 10] 5 (1, 2))) w.heap.size 0 none 0 0 from (ha.block _ (blk_lt HX)).trans HX)
  have HC := Lib.hid (cut_bytes A cap W1.heap.size 1 l (W1.alloc (.cells #[.int .u8 10] 5 (1, 2))) ((hB.below HB1).below ha) (by omega) (by
    have hg : (W1.alloc (.cells #[.int .u8 10] 5 (1, 2))).heap[W1.heap.size]? = some (.cells #[.int .u8 10] 5 (1, 2)) := Array.getElem?_push_size
    exact cell_of_row _ _ 0 _ _ _ hg))
  have HK2 := Lib.hid ((hK.later HB1).later ha)
  clear hB hK
  go_enter Tryd.func19, Tryd.ntmps19
  go_upto_region 1 with fail
  rw [← hW1]
  clear hW1
  go_wp2_with fail
  generalize W1.alloc (.cells #[.int .u8 10] 5 (1, 2)) = w2 at *
  clear ha HB1 HX kc
  refine HC.out.mono ?_
  rintro e w3 ⟨hE, hb3⟩
  have hr2 : w.heap.size < w2.heap.size := blk_lt HX2.out
  have HX3 := Lib.hid (show RpAt w3 w.heap.size 0 none 0 0 from (hb3.block _ hr2).trans HX2.out)
  have HB3 := Lib.hid (HB2.out.trans (hb3.mono HB2.out.size))
  have HK3 := Lib.hid (HK2.out.later hb3)
  clear HC HX2 HB2 HK2 hr2 hb3
  unfold CutEnd at hE
  cases hsp : split 10 l with
  | none =>
    rw [hsp] at hE HR
    subst hE
    have c0 := HX3.out.c0
    have c1 := HX3.out.c1
    have e0 := blk_free HX3.out 0
    have e1 := blk_free HX3.out 1
    go_wp2_with fail
    have hfin : RpAt ((w3.setCell ⟨w.heap.size, 0, none⟩ (.int .i64 0)).setCell ⟨w.heap.size, 1, none⟩ (.slice none 0 0)) w.heap.size 0 none 0 0 := rp_all HX3.out
    have hbf : Below w.heap.size w ((w3.setCell ⟨w.heap.size, 0, none⟩ (.int .i64 0)).setCell ⟨w.heap.size, 1, none⟩ (.slice none 0 0)) := ((HB3.out.setCell (p := ⟨w.heap.size, 0, none⟩) (Nat.le_refl _) _).setCell (p := ⟨w.heap.size, 1, none⟩) (Nat.le_refl _) _)
    clear c0 e0 c1 e1
    generalize ((w3.setCell ⟨w.heap.size, 0, none⟩ (.int .i64 0)).setCell ⟨w.heap.size, 1, none⟩ (.slice none 0 0)) = wf at *
    have c0 := hfin.c0
    have c1 := hfin.c1
    exact bodyPost_ret (v := .tuple #[.agg #[.int .i64 0, .slice none 0 0], .int .i64 3]) (by simp [results, Tryd.results19, go_sem, c0, c1, rqV, rq0]) rfl ⟨by rw [HR.out]; rfl, hbf⟩
  | some p =>
    obtain ⟨h, t⟩ := p
    rw [hsp] at hE HR
    obtain ⟨A', c', rfl, hBh, hBt⟩ := hE
    have hlen := split_len hsp
    have hcv := conv_in cap hBh.in
    have HE := Lib.hid (errno_any ⟨h.toArray⟩ w3 HK3.out)
    rw [show (⟨h.toArray⟩ : ByteArray).data.toList = h from rfl] at HE
    have HBT := Lib.hid hBt
    clear hBh hBt
    cases her : ern h with
    | none =>
      have HS2 := Lib.hid (show res = none by rw [HR.out]; simp only [her])
      rw [her] at HE
      unfold ernV at HE
      go_wp2_with fail
      refine HE.out.mono ?_
      rintro e w4 ⟨rfl, rfl⟩
      have c0 := HX3.out.c0
      have c1 := HX3.out.c1
      have e0 := blk_free HX3.out 0
      have e1 := blk_free HX3.out 1
      go_wp2_with fail
      have hfin : RpAt ((w4.setCell ⟨w.heap.size, 0, none⟩ (.int .i64 0)).setCell ⟨w.heap.size, 1, none⟩ (.slice none 0 0)) w.heap.size 0 none 0 0 := rp_all HX3.out
      have hbf : Below w.heap.size w ((w4.setCell ⟨w.heap.size, 0, none⟩ (.int .i64 0)).setCell ⟨w.heap.size, 1, none⟩ (.slice none 0 0)) := ((HB3.out.setCell (p := ⟨w.heap.size, 0, none⟩) (Nat.le_refl _) _).setCell (p := ⟨w.heap.size, 1, none⟩) (Nat.le_refl _) _)
      clear c0 e0 c1 e1
      generalize ((w4.setCell ⟨w.heap.size, 0, none⟩ (.int .i64 0)).setCell ⟨w.heap.size, 1, none⟩ (.slice none 0 0)) = wf at *
      have c0 := hfin.c0
      have c1 := hfin.c1
      exact bodyPost_ret (v := .tuple #[.agg #[.int .i64 0, .slice none 0 0], .int .i64 3]) (by simp [results, Tryd.results19, go_sem, c0, c1, rqV, rq0]) rfl ⟨by rw [HS2.out]; rfl, hbf⟩
    | some k =>
      have HS2 := Lib.hid (show res = some (k, t) by rw [HR.out]; simp only [her])
      rw [her] at HE
      unfold ernV at HE
      have HCP := Lib.hid (copied_any A' c' t w3 HBT.out (by omega))
      go_wp2_with fail
      refine HE.out.mono ?_
      rintro e w4 ⟨rfl, rfl⟩
      go_wp2_with fail
      refine HCP.out.mono ?_
      rintro e w5 ⟨⟨A5, c5', rfl, hown⟩, hb5⟩
      have hr4 : w.heap.size < w4.heap.size := blk_lt HX3.out
      have HX5 := Lib.hid (show RpAt w5 w.heap.size 0 none 0 0 from (hb5.block _ hr4).trans HX3.out)
      have HB5 := Lib.hid (HB3.out.trans (hb5.mono HB3.out.size))
      have HOW := Lib.hid hown
      clear hown hb5 HX3 HB3 HCP HE
      have c0 := HX5.out.c0
      have c1 := HX5.out.c1
      have e0 := blk_free HX5.out 0
      have e1 := blk_free HX5.out 1
      go_wp2_with fail
      have hfin : RpAt ((w5.setCell ⟨w.heap.size, 0, none⟩ (.int .i64 (k : Int))).setCell ⟨w.heap.size, 1, none⟩ (.slice A5 t.length c5')) w.heap.size k A5 t.length c5' := rp_all HX5.out
      have hbf : Below w.heap.size w ((w5.setCell ⟨w.heap.size, 0, none⟩ (.int .i64 (k : Int))).setCell ⟨w.heap.size, 1, none⟩ (.slice A5 t.length c5')) := ((HB5.out.setCell (p := ⟨w.heap.size, 0, none⟩) (Nat.le_refl _) _).setCell (p := ⟨w.heap.size, 1, none⟩) (Nat.le_refl _) _)
      have hof : ((w5.setCell ⟨w.heap.size, 0, none⟩ (.int .i64 (k : Int))).setCell ⟨w.heap.size, 1, none⟩ (.slice A5 t.length c5')).ownsRow w.heap.size 5 1 (.slice A5 t.length c5') t.length (byteCells t) := own_low (own_far (own_far HOW.out hr4) hr4) (by omega)
      clear c0 e0 c1 e1
      generalize ((w5.setCell ⟨w.heap.size, 0, none⟩ (.int .i64 (k : Int))).setCell ⟨w.heap.size, 1, none⟩ (.slice A5 t.length c5')) = wf at *
      have c0 := hfin.c0
      have c1 := hfin.c1
      exact bodyPost_ret (v := .tuple #[.agg #[.int .i64 (k : Int), .slice A5 t.length c5'], .int .i64 0]) (by simp [results, Tryd.results19, go_sem, c0, c1, rqV, rq0]) rfl ⟨by rw [HS2.out]; exact ⟨A5, c5', rfl, hof⟩, hbf⟩

theorem fil_keep : ∀ (s : List UInt8) (r r' : Rq) (ws : List (List UInt8)), fil r s ws = some r' → r'.bo = r.bo ∧ (r'.fi = r.fi ∨ r'.fi ∈ ws)
  | [], r, r', ws, h => by obtain ⟨_, rfl⟩ := fil_nil h; exact ⟨rfl, .inl rfl⟩
  | x :: s, r, r', ws, h => by
    by_cases hx : x = 43
    · subst hx
      exact fil_keep s r r' ws (fil_body h)
    · obtain ⟨w, t, r1, rfl, hp, hf⟩ := fil_cons hx h
      obtain ⟨h1, h2⟩ := fil_keep s r1 r' t hf
      by_cases h7 : x = 70
      · subst h7
        obtain rfl := put_file hp
        refine ⟨h1, ?_⟩
        rcases h2 with h2 | h2
        · exact .inr (by rw [h2]; simp)
        · exact .inr (by simp [h2])
      · obtain ⟨n, _, rfl⟩ := put_num h7 hp
        have e1 : (if x = 65 then { r with a := (n : Int) } else if x = 66 then { r with b := (n : Int) } else { r with c := (n : Int) }).bo = r.bo := by
          by_cases q1 : x = 65
          · rw [if_pos q1]
          · rw [if_neg q1]; by_cases q2 : x = 66
            · rw [if_pos q2]
            · rw [if_neg q2]
        have e2 : (if x = 65 then { r with a := (n : Int) } else if x = 66 then { r with b := (n : Int) } else { r with c := (n : Int) }).fi = r.fi := by
          by_cases q1 : x = 65
          · rw [if_pos q1]
          · rw [if_neg q1]; by_cases q2 : x = 66
            · rw [if_pos q2]
            · rw [if_neg q2]
        refine ⟨h1.trans e1, ?_⟩
        rcases h2 with h2 | h2
        · exact .inl (h2.trans e2)
        · exact .inr (by simp [h2])
theorem req_keep {ws : List (List UInt8)} {r : Rq} (h : req ws = some r) : r.bo = [] ∧ (r.fi = [] ∨ r.fi ∈ ws) := by
  rcases ws with _ | ⟨w0, _ | ⟨w1, t⟩⟩
  · cases h
  · cases h
  · change (match L.parse w1 with | some (lv, ct) => fil ⟨vrb w0, lv, ct, [], 0, 0, 0, []⟩ (sg (vrb w0)) t | none => none) = some r at h
    cases hp : L.parse w1 with
    | none => rw [hp] at h; cases h
    | some p =>
      rw [hp] at h
      obtain ⟨h1, h2⟩ := fil_keep _ _ _ _ h
      refine ⟨h1, ?_⟩
      rcases h2 with h2 | h2
      · exact .inl h2
      · exact .inr (by simp [h2])
theorem words_len : ∀ (l cur : List UInt8), (P.words cur l).length ≤ l.length + 1 ∧ ∀ x ∈ P.words cur l, x.length ≤ cur.length + l.length
  | [], cur => by simp [P.words]
  | c :: l, cur => by
    rw [P.words]
    by_cases hc : c = 32
    · rw [if_pos hc]
      obtain ⟨h1, h2⟩ := words_len l []
      refine ⟨by simp; omega, fun x hx => ?_⟩
      rcases List.mem_cons.1 hx with rfl | hx
      · simp
      · have := h2 x hx; simp at this ⊢; omega
    · rw [if_neg hc]
      obtain ⟨h1, h2⟩ := words_len l (cur ++ [c])
      refine ⟨by simp; omega, fun x hx => ?_⟩
      have := h2 x hx; simp at this ⊢; omega

def PsEnd (base : Nat) (o : Rq ⊕ Int) (e : Ending) (w' : World) : Prop := match o with
  | .inl r => ∃ A c, e = .returned (.tuple #[rqV r A c, .int .i64 0]) ∧ w'.ownsRow base 5 1 (.slice A r.bo.length c) r.bo.length (byteCells r.bo)
  | .inr n => e = .returned (.tuple #[rqV rq0 none 0, .int .i64 n])
theorem prs_is (l : List UInt8) : prs l = match split 10 l with
    | none => .inr 3
    | some (h, t) => match req (P.words [] h) with
      | none => .inr 3
      | some r => if chk { r with bo := t } = 0 then .inl { r with bo := t } else .inr (chk { r with bo := t }) := rfl
set_option maxHeartbeats 8000000 in
set_option maxRecDepth 100000 in
theorem parse_any (A : Option Addr) (cap : Nat) (l : List UInt8) (w : World) (hK : Kt w) (hT : Tab w) (hB : Bz w A cap l) (hl : l.length ≤ 4194304) :
    Calls Tryd.prog 15 #[.slice A l.length cap] w fun e w' => PsEnd w.heap.size (prs l) e w' ∧ Below w.heap.size w w' := by
  have HR := Lib.hid (prs_is l)
  generalize prs l = res at *
  have kc := fun (w : World) (C : Array Value) (n c : Nat) => Lib.run_convert_bytes_const (P := Tryd.prog) w 26 5 C n c Tryd.underlying26 Tryd.underlying5
  obtain ⟨W1, hW1⟩ : ∃ W : World, W = w.alloc (.cells #[.int .i64 0, .int .i64 0, .int .u64 0, .string ⟨#[]⟩, .int .i64 0, .int .i64 0, .int .i64 0, .slice none 0 0] 28) := ⟨_, rfl⟩
  have HX : RqAt W1 w.heap.size 0 0 0 ⟨#[]⟩ 0 0 0 none 0 0 := by rw [hW1]; exact Array.getElem?_push_size
  have HB1 : Below w.heap.size w W1 := by rw [hW1]; exact alloc1 _ _
  have ha : Below W1.heap.size W1 (W1.alloc (.cells #[.int .u8 10] 5 (1, 2))) := alloc1 _ _
  have HB2 := Lib.hid (HB1.trans (ha.mono HB1.size))
  have HX2 := Lib.hid (show RqAt (W1.alloc (.cells #[.int .u8 10] 5 (1, 2))) w.heap.size 0 0 0 ⟨#[]⟩ 0 0 0 none 0 0 from (ha.block _ (blk_lt HX)).trans HX)
  have HC := Lib.hid (cut_bytes A cap W1.heap.size 1 l (W1.alloc (.cells #[.int .u8 10] 5 (1, 2))) ((hB.below HB1).below ha) (by omega) (by
    have hg : (W1.alloc (.cells #[.int .u8 10] 5 (1, 2))).heap[W1.heap.size]? = some (.cells #[.int .u8 10] 5 (1, 2)) := Array.getElem?_push_size
    exact cell_of_row _ _ 0 _ _ _ hg))
  have HK2 := Lib.hid ((hK.later HB1).later ha)
  have HT2 := Lib.hid (Tab.later (Tab.later hT HB1) ha)
  clear hB hK hT
  go_enter Tryd.func15, Tryd.ntmps15
  go_upto_region 1 with fail
  rw [← hW1]
  clear hW1
  go_wp2_with fail
  generalize W1.alloc (.cells #[.int .u8 10] 5 (1, 2)) = w2 at *
  clear ha HB1 HX kc
  refine HC.out.mono ?_
  rintro e w3 ⟨hE, hb3⟩
  have hr2 : w.heap.size < w2.heap.size := blk_lt HX2.out
  have HX3 := Lib.hid (show RqAt w3 w.heap.size 0 0 0 ⟨#[]⟩ 0 0 0 none 0 0 from (hb3.block _ hr2).trans HX2.out)
  have HB3 := Lib.hid (HB2.out.trans (hb3.mono HB2.out.size))
  have HK3 := Lib.hid (HK2.out.later hb3)
  have HT3 := Lib.hid (Tab.later HT2.out hb3)
  clear HC HX2 HB2 HK2 HT2 hr2 hb3
  unfold CutEnd at hE
  cases hsp : split 10 l with
  | none =>
    rw [hsp] at hE HR
    subst hE
    have c0 := HX3.out.c0
    have c1 := HX3.out.c1
    have c2 := HX3.out.c2
    have c3 := HX3.out.c3
    have c4 := HX3.out.c4
    have c5 := HX3.out.c5
    have c6 := HX3.out.c6
    have c7 := HX3.out.c7
    have e0 := blk_free HX3.out 0
    have e1 := blk_free HX3.out 1
    have e2 := blk_free HX3.out 2
    have e3 := blk_free HX3.out 3
    have e4 := blk_free HX3.out 4
    have e5 := blk_free HX3.out 5
    have e6 := blk_free HX3.out 6
    have e7 := blk_free HX3.out 7
    go_wp2_with fail
    have hfin : RqAt ((((((((w3.setCell ⟨w.heap.size, 0, none⟩ (.int .i64 0)).setCell ⟨w.heap.size, 1, none⟩ (.int .i64 0)).setCell ⟨w.heap.size, 2, none⟩ (.int .u64 0)).setCell ⟨w.heap.size, 3, none⟩ (.string ⟨#[]⟩)).setCell ⟨w.heap.size, 4, none⟩ (.int .i64 0)).setCell ⟨w.heap.size, 5, none⟩ (.int .i64 0)).setCell ⟨w.heap.size, 6, none⟩ (.int .i64 0)).setCell ⟨w.heap.size, 7, none⟩ (.slice none 0 0)) w.heap.size 0 0 0 ⟨#[]⟩ 0 0 0 none 0 0 := rq_all HX3.out
    have hbf : Below w.heap.size w ((((((((w3.setCell ⟨w.heap.size, 0, none⟩ (.int .i64 0)).setCell ⟨w.heap.size, 1, none⟩ (.int .i64 0)).setCell ⟨w.heap.size, 2, none⟩ (.int .u64 0)).setCell ⟨w.heap.size, 3, none⟩ (.string ⟨#[]⟩)).setCell ⟨w.heap.size, 4, none⟩ (.int .i64 0)).setCell ⟨w.heap.size, 5, none⟩ (.int .i64 0)).setCell ⟨w.heap.size, 6, none⟩ (.int .i64 0)).setCell ⟨w.heap.size, 7, none⟩ (.slice none 0 0)) := ((((((((HB3.out.setCell (p := ⟨w.heap.size, 0, none⟩) (Nat.le_refl _) _).setCell (p := ⟨w.heap.size, 1, none⟩) (Nat.le_refl _) _).setCell (p := ⟨w.heap.size, 2, none⟩) (Nat.le_refl _) _).setCell (p := ⟨w.heap.size, 3, none⟩) (Nat.le_refl _) _).setCell (p := ⟨w.heap.size, 4, none⟩) (Nat.le_refl _) _).setCell (p := ⟨w.heap.size, 5, none⟩) (Nat.le_refl _) _).setCell (p := ⟨w.heap.size, 6, none⟩) (Nat.le_refl _) _).setCell (p := ⟨w.heap.size, 7, none⟩) (Nat.le_refl _) _)
    clear c0 e0 c1 e1 c2 e2 c3 e3 c4 e4 c5 e5 c6 e6 c7 e7
    generalize ((((((((w3.setCell ⟨w.heap.size, 0, none⟩ (.int .i64 0)).setCell ⟨w.heap.size, 1, none⟩ (.int .i64 0)).setCell ⟨w.heap.size, 2, none⟩ (.int .u64 0)).setCell ⟨w.heap.size, 3, none⟩ (.string ⟨#[]⟩)).setCell ⟨w.heap.size, 4, none⟩ (.int .i64 0)).setCell ⟨w.heap.size, 5, none⟩ (.int .i64 0)).setCell ⟨w.heap.size, 6, none⟩ (.int .i64 0)).setCell ⟨w.heap.size, 7, none⟩ (.slice none 0 0)) = wf at *
    have c0 := hfin.c0
    have c1 := hfin.c1
    have c2 := hfin.c2
    have c3 := hfin.c3
    have c4 := hfin.c4
    have c5 := hfin.c5
    have c6 := hfin.c6
    have c7 := hfin.c7
    exact bodyPost_ret (v := .tuple #[rqV rq0 none 0, .int .i64 3]) (by simp [results, Tryd.results15, go_sem, c0, c1, c2, c3, c4, c5, c6, c7, rqV, rq0]) rfl ⟨by rw [HR.out]; rfl, hbf⟩
  | some p =>
    obtain ⟨h, t⟩ := p
    rw [hsp] at hE HR
    obtain ⟨A', c', rfl, hBh, hBt⟩ := hE
    have hlen := split_len hsp
    have hcv := conv_in cap hBh.in
    have HW := Lib.hid (words_any ⟨h.toArray⟩ w3 (by simp only [ByteArray.size, List.size_toArray]; omega))
    rw [show (⟨h.toArray⟩ : ByteArray).data.toList = h from rfl] at HW
    have HBT := Lib.hid hBt
    have HWL := Lib.hid (words_len h [])
    have hw1 : 0 < (P.words [] h).length := by obtain ⟨a, b, e⟩ := words_cons h []; rw [e]; simp
    simp only [] at HR
    generalize P.words [] h = ws at *
    clear hBh hBt
    go_wp2_with fail
    refine HW.out.mono ?_
    rintro e w4 ⟨v4, rfl, hown, hb4⟩
    obtain ⟨A4, c4, rfl, hfit, hA4⟩ := T.own_form hown
    obtain ⟨g4, rfl, hg4, hlt4, hcells⟩ := hA4 hw1
    have hWS : WsAt w4 g4 0 ws := fun j hj => by
      rw [Nat.zero_add]
      exact hcells j _ (by simp [strCells, List.getElem?_eq_getElem hj])
    have hr3 : w.heap.size < w3.heap.size := blk_lt HX3.out
    have HX4 := Lib.hid (show RqAt w4 w.heap.size 0 0 0 ⟨#[]⟩ 0 0 0 none 0 0 from (hb4.block _ hr3).trans HX3.out)
    have HB4 := Lib.hid (HB3.out.trans (hb4.mono HB3.out.size))
    have HBT4 := Lib.hid (HBT.out.below hb4)
    have HQ := Lib.hid (request_any g4 c4 ws w4 (HK3.out.later hb4) (Tab.later HT3.out hb4) hlt4 hWS hfit (fun x hx => by have := HWL.out.2 x hx; simp at this; omega) (by have := HWL.out.1; omega))
    have HK4 := Lib.hid (HK3.out.later hb4)
    clear HX3 HB3 HBT HW hown hA4 hcells hWS hb4 hcv hr3 HK3 HT3
    go_wp2_with fail
    refine HQ.out.mono ?_
    rintro e w5 ⟨hE, hb5⟩
    have hr4 : w.heap.size < w4.heap.size := blk_lt HX4.out
    have HX5 := Lib.hid (show RqAt w5 w.heap.size 0 0 0 ⟨#[]⟩ 0 0 0 none 0 0 from (hb5.block _ hr4).trans HX4.out)
    have HB5 := Lib.hid (HB4.out.trans (hb5.mono HB4.out.size))
    have HBT5 := Lib.hid (HBT4.out.below hb5)
    have HK5 := Lib.hid (HK4.out.later hb5)
    clear HX4 HB4 HBT4 HQ hb5 hr4 HK4
    have hr5 : w.heap.size < w5.heap.size := blk_lt HX5.out
    cases hrq : req ws with
    | none =>
      have HS2 := Lib.hid (show res = .inr 3 by rw [HR.out, hrq])
      rw [hrq] at hE
      obtain rfl : e = .returned (.tuple #[.agg #[.int .i64 0, .int .i64 0, .int .u64 0, .string ⟨#[]⟩, .int .i64 0, .int .i64 0, .int .i64 0, .slice none 0 0], .bool false]) := hE
      have hal : Below w5.heap.size w5 (w5.alloc (.cells #[.int .i64 0, .int .i64 0, .int .u64 0, .string ⟨#[]⟩, .int .i64 0, .int .i64 0, .int .i64 0, .slice none 0 0] 28)) := alloc1 _ _
      have HX6 := Lib.hid (show RqAt (w5.alloc (.cells #[.int .i64 0, .int .i64 0, .int .u64 0, .string ⟨#[]⟩, .int .i64 0, .int .i64 0, .int .i64 0, .slice none 0 0] 28)) w.heap.size 0 0 0 ⟨#[]⟩ 0 0 0 none 0 0 from (hal.block _ hr5).trans HX5.out)
      have HB6 := Lib.hid (HB5.out.trans (hal.mono HB5.out.size))
      clear HX5 HB5 hal
      go_upto_region 5 with fail
      generalize w5.alloc (.cells #[.int .i64 0, .int .i64 0, .int .u64 0, .string ⟨#[]⟩, .int .i64 0, .int .i64 0, .int .i64 0, .slice none 0 0] 28) = w6 at *
      have c0 := HX6.out.c0
      have c1 := HX6.out.c1
      have c2 := HX6.out.c2
      have c3 := HX6.out.c3
      have c4 := HX6.out.c4
      have c5 := HX6.out.c5
      have c6 := HX6.out.c6
      have c7 := HX6.out.c7
      have e0 := blk_free HX6.out 0
      have e1 := blk_free HX6.out 1
      have e2 := blk_free HX6.out 2
      have e3 := blk_free HX6.out 3
      have e4 := blk_free HX6.out 4
      have e5 := blk_free HX6.out 5
      have e6 := blk_free HX6.out 6
      have e7 := blk_free HX6.out 7
      go_wp2_with fail
      have hfin : RqAt ((((((((w6.setCell ⟨w.heap.size, 0, none⟩ (.int .i64 0)).setCell ⟨w.heap.size, 1, none⟩ (.int .i64 0)).setCell ⟨w.heap.size, 2, none⟩ (.int .u64 0)).setCell ⟨w.heap.size, 3, none⟩ (.string ⟨#[]⟩)).setCell ⟨w.heap.size, 4, none⟩ (.int .i64 0)).setCell ⟨w.heap.size, 5, none⟩ (.int .i64 0)).setCell ⟨w.heap.size, 6, none⟩ (.int .i64 0)).setCell ⟨w.heap.size, 7, none⟩ (.slice none 0 0)) w.heap.size 0 0 0 ⟨#[]⟩ 0 0 0 none 0 0 := rq_all HX6.out
      have hbf : Below w.heap.size w ((((((((w6.setCell ⟨w.heap.size, 0, none⟩ (.int .i64 0)).setCell ⟨w.heap.size, 1, none⟩ (.int .i64 0)).setCell ⟨w.heap.size, 2, none⟩ (.int .u64 0)).setCell ⟨w.heap.size, 3, none⟩ (.string ⟨#[]⟩)).setCell ⟨w.heap.size, 4, none⟩ (.int .i64 0)).setCell ⟨w.heap.size, 5, none⟩ (.int .i64 0)).setCell ⟨w.heap.size, 6, none⟩ (.int .i64 0)).setCell ⟨w.heap.size, 7, none⟩ (.slice none 0 0)) := ((((((((HB6.out.setCell (p := ⟨w.heap.size, 0, none⟩) (Nat.le_refl _) _).setCell (p := ⟨w.heap.size, 1, none⟩) (Nat.le_refl _) _).setCell (p := ⟨w.heap.size, 2, none⟩) (Nat.le_refl _) _).setCell (p := ⟨w.heap.size, 3, none⟩) (Nat.le_refl _) _).setCell (p := ⟨w.heap.size, 4, none⟩) (Nat.le_refl _) _).setCell (p := ⟨w.heap.size, 5, none⟩) (Nat.le_refl _) _).setCell (p := ⟨w.heap.size, 6, none⟩) (Nat.le_refl _) _).setCell (p := ⟨w.heap.size, 7, none⟩) (Nat.le_refl _) _)
      clear c0 e0 c1 e1 c2 e2 c3 e3 c4 e4 c5 e5 c6 e6 c7 e7
      generalize ((((((((w6.setCell ⟨w.heap.size, 0, none⟩ (.int .i64 0)).setCell ⟨w.heap.size, 1, none⟩ (.int .i64 0)).setCell ⟨w.heap.size, 2, none⟩ (.int .u64 0)).setCell ⟨w.heap.size, 3, none⟩ (.string ⟨#[]⟩)).setCell ⟨w.heap.size, 4, none⟩ (.int .i64 0)).setCell ⟨w.heap.size, 5, none⟩ (.int .i64 0)).setCell ⟨w.heap.size, 6, none⟩ (.int .i64 0)).setCell ⟨w.heap.size, 7, none⟩ (.slice none 0 0)) = wf at *
      have c0 := hfin.c0
      have c1 := hfin.c1
      have c2 := hfin.c2
      have c3 := hfin.c3
      have c4 := hfin.c4
      have c5 := hfin.c5
      have c6 := hfin.c6
      have c7 := hfin.c7
      exact bodyPost_ret (v := .tuple #[rqV rq0 none 0, .int .i64 3]) (by simp [results, Tryd.results15, go_sem, c0, c1, c2, c3, c4, c5, c6, c7, rqV, rq0]) rfl ⟨by rw [HS2.out]; rfl, hbf⟩
    | some r =>
      obtain ⟨hbo, hfi⟩ := req_keep hrq
      obtain ⟨vb, lv, ct, fi, a, b, c, bo⟩ := r
      obtain rfl : bo = [] := hbo
      have hfl : fi.length ≤ 4194304 := by
        rcases hfi with hf | hf
        · simp only [] at hf; rw [hf]; simp
        · have := HWL.out.2 _ hf; simp at this; omega
      have HS2 := Lib.hid (show res = if chk ⟨vb, lv, ct, fi, a, b, c, t⟩ = 0 then .inl ⟨vb, lv, ct, fi, a, b, c, t⟩ else .inr (chk ⟨vb, lv, ct, fi, a, b, c, t⟩) by rw [HR.out, hrq])
      rw [hrq] at hE
      obtain rfl : e = .returned (.tuple #[.agg #[.int .i64 vb, .int .i64 lv, .int .u64 (ct : Int), .string ⟨fi.toArray⟩, .int .i64 a, .int .i64 b, .int .i64 c, .slice none 0 0], .bool true]) := hE
      have hal : Below w5.heap.size w5 (w5.alloc (.cells #[.int .i64 vb, .int .i64 lv, .int .u64 (ct : Int), .string ⟨fi.toArray⟩, .int .i64 a, .int .i64 b, .int .i64 c, .slice none 0 0] 28)) := alloc1 _ _
      have HX6 := Lib.hid (show RqAt (w5.alloc (.cells #[.int .i64 vb, .int .i64 lv, .int .u64 (ct : Int), .string ⟨fi.toArray⟩, .int .i64 a, .int .i64 b, .int .i64 c, .slice none 0 0] 28)) w.heap.size 0 0 0 ⟨#[]⟩ 0 0 0 none 0 0 from (hal.block _ hr5).trans HX5.out)
      have HG6 := Lib.hid (show RqAt (w5.alloc (.cells #[.int .i64 vb, .int .i64 lv, .int .u64 (ct : Int), .string ⟨fi.toArray⟩, .int .i64 a, .int .i64 b, .int .i64 c, .slice none 0 0] 28)) w5.heap.size vb lv ct ⟨fi.toArray⟩ a b c none 0 0 from Array.getElem?_push_size)
      have HB6 := Lib.hid (HB5.out.trans (hal.mono HB5.out.size))
      have hal7 : Below w5.heap.size w5 ((w5.alloc (.cells #[.int .i64 vb, .int .i64 lv, .int .u64 (ct : Int), .string ⟨fi.toArray⟩, .int .i64 a, .int .i64 b, .int .i64 c, .slice none 0 0] 28)).setCell ⟨w5.heap.size, 7, none⟩ (.slice A' t.length c')) := hal.setCell (p := ⟨w5.heap.size, 7, none⟩) (Nat.le_refl _) _
      have HBT7 := Lib.hid (HBT5.out.below hal7)
      have HK7 := Lib.hid (HK5.out.later hal7)
      obtain ⟨gq, hgq⟩ : ∃ q, q = w5.heap.size := ⟨_, rfl⟩
      clear HX5 HB5 hal HBT5 HK5 HR HWL hal7
      go_upto_region 5 with fail
      rw [← hgq]
      rw [← hgq] at HG6 hr5 HBT7 HK7
      generalize w5.alloc (.cells #[.int .i64 vb, .int .i64 lv, .int .u64 (ct : Int), .string ⟨fi.toArray⟩, .int .i64 a, .int .i64 b, .int .i64 c, .slice none 0 0] 28) = w6 at *
      clear hgq
      have hgl : gq < w6.heap.size := blk_lt HG6.out
      have hne : w.heap.size ≠ gq := by omega
      have hle : w.heap.size ≤ gq := by omega
      have c7 := HG6.out.c7
      have e7 := blk_free HG6.out 7
      go_upto_region 8 with fail
      obtain ⟨w7, hw7⟩ : ∃ W : World, W = w6.setCell ⟨gq, 7, none⟩ (.slice A' t.length c') := ⟨_, rfl⟩
      rw [← hw7] at HBT7 HK7 ⊢
      have HG7 := Lib.hid (show RqAt w7 gq vb lv ct ⟨fi.toArray⟩ a b c A' t.length c' by rw [hw7]; exact HG6.out.s7 A' t.length c')
      have HX7 := Lib.hid (show RqAt w7 w.heap.size 0 0 0 ⟨#[]⟩ 0 0 0 none 0 0 by rw [hw7]; exact (blk_far hne _).trans HX6.out)
      have HB7 := Lib.hid (show Below w.heap.size w w7 by rw [hw7]; exact HB6.out.setCell (p := ⟨gq, 7, none⟩) hle _)
      clear c7 e7 HX6 HB6 HG6 hw7 hgl
      have hg7 : gq < w7.heap.size := blk_lt HG7.out
      have hr7 : w.heap.size < w7.heap.size := blk_lt HX7.out
      have HCK := Lib.hid (check_any vb lv ct fi a b c t A' c' w7 HK7.out (by simp only [maxLen]; omega))
      generalize chk ⟨vb, lv, ct, fi, a, b, c, t⟩ = ck at *
      have d0 := HG7.out.c0
      have d1 := HG7.out.c1
      have d2 := HG7.out.c2
      have d3 := HG7.out.c3
      have d4 := HG7.out.c4
      have d5 := HG7.out.c5
      have d6 := HG7.out.c6
      have d7 := HG7.out.c7
      go_wp2_with fail
      refine HCK.out.mono ?_
      rintro e w8 ⟨rfl, hb8⟩
      have HG8 := Lib.hid (show RqAt w8 gq vb lv ct ⟨fi.toArray⟩ a b c A' t.length c' from (hb8.block _ hg7).trans HG7.out)
      have HX8 := Lib.hid (show RqAt w8 w.heap.size 0 0 0 ⟨#[]⟩ 0 0 0 none 0 0 from (hb8.block _ hr7).trans HX7.out)
      have HB8 := Lib.hid (HB7.out.trans (hb8.mono HB7.out.size))
      have HBT8 := Lib.hid (HBT7.out.below hb8)
      clear d0 d1 d2 d3 d4 d5 d6 d7 HG7 HX7 HB7 HBT7 HK7 HCK hb8
      by_cases hck : ck = 0
      · have HS3 := Lib.hid (show res = .inl ⟨vb, lv, ct, fi, a, b, c, t⟩ by rw [HS2.out, if_pos hck])
        clear HS2
        subst hck
        have hg8 : gq < w8.heap.size := blk_lt HG8.out
        have hr8 : w.heap.size < w8.heap.size := blk_lt HX8.out
        have HCP := Lib.hid (copied_any A' c' t w8 HBT8.out (by omega))
        go_upto_region 11 with fail
        have c7 := HG8.out.c7
        have e7 := blk_free HG8.out 7
        go_wp2_with fail
        refine HCP.out.mono ?_
        rintro e w9 ⟨⟨A9, c9, rfl, hown⟩, hb9⟩
        have HG9 := Lib.hid (show RqAt w9 gq vb lv ct ⟨fi.toArray⟩ a b c A' t.length c' from (hb9.block _ hg8).trans HG8.out)
        have HX9 := Lib.hid (show RqAt w9 w.heap.size 0 0 0 ⟨#[]⟩ 0 0 0 none 0 0 from (hb9.block _ hr8).trans HX8.out)
        have HB9 := Lib.hid (HB8.out.trans (hb9.mono HB8.out.size))
        have HOW := Lib.hid hown
        clear c7 e7 HG8 HX8 HB8 HBT8 HCP hown hb9
        have c7 := HG9.out.c7
        have e7 := blk_free HG9.out 7
        go_upto_region 12 with fail
        obtain ⟨wa, hwa⟩ : ∃ W : World, W = w9.setCell ⟨gq, 7, none⟩ (.slice A9 t.length c9) := ⟨_, rfl⟩
        rw [← hwa]
        have HGa := Lib.hid (show RqAt wa gq vb lv ct ⟨fi.toArray⟩ a b c A9 t.length c9 by rw [hwa]; exact HG9.out.s7 A9 t.length c9)
        have HXa := Lib.hid (show RqAt wa w.heap.size 0 0 0 ⟨#[]⟩ 0 0 0 none 0 0 by rw [hwa]; exact (blk_far hne _).trans HX9.out)
        have HBa := Lib.hid (show Below w.heap.size w wa by rw [hwa]; exact HB9.out.setCell (p := ⟨gq, 7, none⟩) hle _)
        have HOa := Lib.hid (show wa.ownsRow w8.heap.size 5 1 (.slice A9 t.length c9) t.length (byteCells t) by rw [hwa]; exact own_far HOW.out hg8)
        clear c7 e7 HG9 HX9 HB9 HOW hwa
        have d0 := HGa.out.c0
        have d1 := HGa.out.c1
        have d2 := HGa.out.c2
        have d3 := HGa.out.c3
        have d4 := HGa.out.c4
        have d5 := HGa.out.c5
        have d6 := HGa.out.c6
        have d7 := HGa.out.c7
        have c0 := HXa.out.c0
        have c1 := HXa.out.c1
        have c2 := HXa.out.c2
        have c3 := HXa.out.c3
        have c4 := HXa.out.c4
        have c5 := HXa.out.c5
        have c6 := HXa.out.c6
        have c7 := HXa.out.c7
        have e0 := blk_free HXa.out 0
        have e1 := blk_free HXa.out 1
        have e2 := blk_free HXa.out 2
        have e3 := blk_free HXa.out 3
        have e4 := blk_free HXa.out 4
        have e5 := blk_free HXa.out 5
        have e6 := blk_free HXa.out 6
        have e7 := blk_free HXa.out 7
        go_wp2_with fail
        have hfin : RqAt ((((((((wa.setCell ⟨w.heap.size, 0, none⟩ (.int .i64 vb)).setCell ⟨w.heap.size, 1, none⟩ (.int .i64 lv)).setCell ⟨w.heap.size, 2, none⟩ (.int .u64 (ct : Int))).setCell ⟨w.heap.size, 3, none⟩ (.string ⟨fi.toArray⟩)).setCell ⟨w.heap.size, 4, none⟩ (.int .i64 a)).setCell ⟨w.heap.size, 5, none⟩ (.int .i64 b)).setCell ⟨w.heap.size, 6, none⟩ (.int .i64 c)).setCell ⟨w.heap.size, 7, none⟩ (.slice A9 t.length c9)) w.heap.size vb lv ct ⟨fi.toArray⟩ a b c A9 t.length c9 := rq_all HXa.out
        have hbf : Below w.heap.size w ((((((((wa.setCell ⟨w.heap.size, 0, none⟩ (.int .i64 vb)).setCell ⟨w.heap.size, 1, none⟩ (.int .i64 lv)).setCell ⟨w.heap.size, 2, none⟩ (.int .u64 (ct : Int))).setCell ⟨w.heap.size, 3, none⟩ (.string ⟨fi.toArray⟩)).setCell ⟨w.heap.size, 4, none⟩ (.int .i64 a)).setCell ⟨w.heap.size, 5, none⟩ (.int .i64 b)).setCell ⟨w.heap.size, 6, none⟩ (.int .i64 c)).setCell ⟨w.heap.size, 7, none⟩ (.slice A9 t.length c9)) := ((((((((HBa.out.setCell (p := ⟨w.heap.size, 0, none⟩) (Nat.le_refl _) _).setCell (p := ⟨w.heap.size, 1, none⟩) (Nat.le_refl _) _).setCell (p := ⟨w.heap.size, 2, none⟩) (Nat.le_refl _) _).setCell (p := ⟨w.heap.size, 3, none⟩) (Nat.le_refl _) _).setCell (p := ⟨w.heap.size, 4, none⟩) (Nat.le_refl _) _).setCell (p := ⟨w.heap.size, 5, none⟩) (Nat.le_refl _) _).setCell (p := ⟨w.heap.size, 6, none⟩) (Nat.le_refl _) _).setCell (p := ⟨w.heap.size, 7, none⟩) (Nat.le_refl _) _)
        have hof : ((((((((wa.setCell ⟨w.heap.size, 0, none⟩ (.int .i64 vb)).setCell ⟨w.heap.size, 1, none⟩ (.int .i64 lv)).setCell ⟨w.heap.size, 2, none⟩ (.int .u64 (ct : Int))).setCell ⟨w.heap.size, 3, none⟩ (.string ⟨fi.toArray⟩)).setCell ⟨w.heap.size, 4, none⟩ (.int .i64 a)).setCell ⟨w.heap.size, 5, none⟩ (.int .i64 b)).setCell ⟨w.heap.size, 6, none⟩ (.int .i64 c)).setCell ⟨w.heap.size, 7, none⟩ (.slice A9 t.length c9)).ownsRow w.heap.size 5 1 (.slice A9 t.length c9) t.length (byteCells t) := own_low (own_far (own_far (own_far (own_far (own_far (own_far (own_far (own_far HOa.out hr8) hr8) hr8) hr8) hr8) hr8) hr8) hr8) (by omega)
        clear c0 e0 c1 e1 c2 e2 c3 e3 c4 e4 c5 e5 c6 e6 c7 e7
        generalize ((((((((wa.setCell ⟨w.heap.size, 0, none⟩ (.int .i64 vb)).setCell ⟨w.heap.size, 1, none⟩ (.int .i64 lv)).setCell ⟨w.heap.size, 2, none⟩ (.int .u64 (ct : Int))).setCell ⟨w.heap.size, 3, none⟩ (.string ⟨fi.toArray⟩)).setCell ⟨w.heap.size, 4, none⟩ (.int .i64 a)).setCell ⟨w.heap.size, 5, none⟩ (.int .i64 b)).setCell ⟨w.heap.size, 6, none⟩ (.int .i64 c)).setCell ⟨w.heap.size, 7, none⟩ (.slice A9 t.length c9)) = wf at *
        have c0 := hfin.c0
        have c1 := hfin.c1
        have c2 := hfin.c2
        have c3 := hfin.c3
        have c4 := hfin.c4
        have c5 := hfin.c5
        have c6 := hfin.c6
        have c7 := hfin.c7
        exact bodyPost_ret (v := .tuple #[rqV ⟨vb, lv, ct, fi, a, b, c, t⟩ A9 c9, .int .i64 0]) (by simp [results, Tryd.results15, go_sem, c0, c1, c2, c3, c4, c5, c6, c7, rqV, rq0]) rfl ⟨by rw [HS3.out]; exact ⟨A9, c9, rfl, hof⟩, hbf⟩
      · have HS3 := Lib.hid (show res = .inr ck by rw [HS2.out, if_neg hck])
        clear HS2
        have c0 := HX8.out.c0
        have c1 := HX8.out.c1
        have c2 := HX8.out.c2
        have c3 := HX8.out.c3
        have c4 := HX8.out.c4
        have c5 := HX8.out.c5
        have c6 := HX8.out.c6
        have c7 := HX8.out.c7
        have e0 := blk_free HX8.out 0
        have e1 := blk_free HX8.out 1
        have e2 := blk_free HX8.out 2
        have e3 := blk_free HX8.out 3
        have e4 := blk_free HX8.out 4
        have e5 := blk_free HX8.out 5
        have e6 := blk_free HX8.out 6
        have e7 := blk_free HX8.out 7
        go_wp2_with fail
        have hfin : RqAt ((((((((w8.setCell ⟨w.heap.size, 0, none⟩ (.int .i64 0)).setCell ⟨w.heap.size, 1, none⟩ (.int .i64 0)).setCell ⟨w.heap.size, 2, none⟩ (.int .u64 0)).setCell ⟨w.heap.size, 3, none⟩ (.string ⟨#[]⟩)).setCell ⟨w.heap.size, 4, none⟩ (.int .i64 0)).setCell ⟨w.heap.size, 5, none⟩ (.int .i64 0)).setCell ⟨w.heap.size, 6, none⟩ (.int .i64 0)).setCell ⟨w.heap.size, 7, none⟩ (.slice none 0 0)) w.heap.size 0 0 0 ⟨#[]⟩ 0 0 0 none 0 0 := rq_all HX8.out
        have hbf : Below w.heap.size w ((((((((w8.setCell ⟨w.heap.size, 0, none⟩ (.int .i64 0)).setCell ⟨w.heap.size, 1, none⟩ (.int .i64 0)).setCell ⟨w.heap.size, 2, none⟩ (.int .u64 0)).setCell ⟨w.heap.size, 3, none⟩ (.string ⟨#[]⟩)).setCell ⟨w.heap.size, 4, none⟩ (.int .i64 0)).setCell ⟨w.heap.size, 5, none⟩ (.int .i64 0)).setCell ⟨w.heap.size, 6, none⟩ (.int .i64 0)).setCell ⟨w.heap.size, 7, none⟩ (.slice none 0 0)) := ((((((((HB8.out.setCell (p := ⟨w.heap.size, 0, none⟩) (Nat.le_refl _) _).setCell (p := ⟨w.heap.size, 1, none⟩) (Nat.le_refl _) _).setCell (p := ⟨w.heap.size, 2, none⟩) (Nat.le_refl _) _).setCell (p := ⟨w.heap.size, 3, none⟩) (Nat.le_refl _) _).setCell (p := ⟨w.heap.size, 4, none⟩) (Nat.le_refl _) _).setCell (p := ⟨w.heap.size, 5, none⟩) (Nat.le_refl _) _).setCell (p := ⟨w.heap.size, 6, none⟩) (Nat.le_refl _) _).setCell (p := ⟨w.heap.size, 7, none⟩) (Nat.le_refl _) _)
        clear c0 e0 c1 e1 c2 e2 c3 e3 c4 e4 c5 e5 c6 e6 c7 e7
        generalize ((((((((w8.setCell ⟨w.heap.size, 0, none⟩ (.int .i64 0)).setCell ⟨w.heap.size, 1, none⟩ (.int .i64 0)).setCell ⟨w.heap.size, 2, none⟩ (.int .u64 0)).setCell ⟨w.heap.size, 3, none⟩ (.string ⟨#[]⟩)).setCell ⟨w.heap.size, 4, none⟩ (.int .i64 0)).setCell ⟨w.heap.size, 5, none⟩ (.int .i64 0)).setCell ⟨w.heap.size, 6, none⟩ (.int .i64 0)).setCell ⟨w.heap.size, 7, none⟩ (.slice none 0 0)) = wf at *
        have c0 := hfin.c0
        have c1 := hfin.c1
        have c2 := hfin.c2
        have c3 := hfin.c3
        have c4 := hfin.c4
        have c5 := hfin.c5
        have c6 := hfin.c6
        have c7 := hfin.c7
        exact bodyPost_ret (v := .tuple #[rqV rq0 none 0, .int .i64 ck]) (by simp [results, Tryd.results15, go_sem, c0, c1, c2, c3, c4, c5, c6, c7, rqV, rq0]) rfl ⟨by rw [HS3.out]; rfl, hbf⟩
end Go.Proofs.YtddakaeacgojmaaDoor.Wr
