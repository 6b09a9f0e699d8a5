/-
  The contract of the reference's Words: for every text of at most 2^22 bytes.
-/
import Derived.Test.YtbilhdfoajahkaaDoorTextC
import Derived.Test.YtbilhdfoajahkaaDoorRefB
import Derived.RegionTactic
import Derived.BigRegion
namespace Go.Proofs.YtbilhdfoajahkaaDoor.T
open Go.RowKit

theorem own_block {w : World} {base : Nat} {e : TypeId} {n : Nat} {v : Value} {xs : List Value} (h : w.ownsRow base e 1 v n xs) (hn : 0 < n) :
    ∃ g cap cur, v = .slice (some ⟨g, 0, none⟩) n cap ∧ base ≤ g ∧ w.heap[g]? = some (.cells cur e (0, 0)) ∧ ∀ (j : Nat) (u : Value), xs[j]? = some u → cur[j]? = some u := by
  rcases h.2 with ⟨_, h0⟩ | ⟨g, cap, cur, rfl, hg, hh, _, _, _, hx⟩
  · omega
  · refine ⟨g, cap, cur, rfl, hg, hh, fun j u hu => ?_⟩
    rw [← hx, List.getElem?_take] at hu
    split at hu
    · simpa using hu
    · cases hu
theorem extract_one (s : ByteArray) (k : Nat) (hk : k < s.size) : s.extract k (k + 1) = ⟨#[s[k]]⟩ := by
  rw [Lib.extract_eq]
  have hl : k < s.data.toList.length := by rw [← Lib.size_eq]; exact hk
  rw [List.drop_eq_getElem_cons hl, show k + 1 - k = 1 by omega, byte s k hk hl]
  rfl
theorem wordsGo_at (s : ByteArray) (cur : List UInt8) (k : Nat) (hk : k < s.size) (h : s[k].toNat = 32) : P.words cur (s.data.toList.drop k) = cur :: P.words [] (s.data.toList.drop (k + 1)) := by
  have hl : k < s.data.toList.length := by rw [← Lib.size_eq]; exact hk
  rw [List.drop_eq_getElem_cons hl, P.words, if_pos (by rw [byte s k hk hl]; exact UInt8.toNat_inj.1 h)]
theorem wordsGo_on (s : ByteArray) (cur : List UInt8) (k : Nat) (hk : k < s.size) (h : ¬ s[k].toNat = 32) : P.words cur (s.data.toList.drop k) = P.words (cur ++ [s[k]]) (s.data.toList.drop (k + 1)) := by
  have hl : k < s.data.toList.length := by rw [← Lib.size_eq]; exact hk
  have e := byte s k hk hl
  rw [List.drop_eq_getElem_cons hl, P.words, if_neg (by rw [e]; exact fun e => h (by rw [e]; rfl)), e]
theorem wordsGo_end (s : ByteArray) (cur : List UInt8) : P.words cur (s.data.toList.drop s.size) = [cur] := by
  rw [Lib.size_eq, List.drop_length, P.words]

set_option maxHeartbeats 1000000 in
set_option maxRecDepth 100000 in
theorem refWords_any (s : ByteArray) (w : World) (hl : s.size ≤ 4194304) :
    Calls Tryd.prog 28 #[.string s] w fun e w' => ∃ v, e = .returned v ∧ w'.ownsRow w.heap.size 9 1 v (P.words [] s.data.toList).length (strCells (P.words [] s.data.toList)) ∧ Below w.heap.size w w' := by
  obtain ⟨i0, hi0, hz0, hz1, hz2⟩ := info_parts infoStr
  go_enter Tryd.func28, Tryd.ntmps28
  go_wp2_with fail
  go_loopg [3, 4] s.size (fun n v i wr => ∃ (k : Nat) (xs : List (List UInt8)) (cur : List UInt8), k ≤ s.size ∧ i = .int .i64 k ∧ s.size - k ≤ n ∧ xs.length ≤ k ∧ cur.length ≤ k ∧ wr.ownsRow w.heap.size 9 1 v (xs.length + 1) (strCells (xs ++ [cur])) ∧ Below w.heap.size w wr ∧ Hid (P.words [] s.data.toList = xs ++ P.words cur (s.data.toList.drop k)))
  case atStart => exact ⟨0, [], [], Nat.zero_le _, rfl, by omega, by simp, by simp, ⟨by simp [strCells], .inr ⟨w.heap.size, 1, #[.string ⟨#[]⟩], rfl, Nat.le_refl _, heap_alloc_new w _, Nat.le_refl _, by simp [maxLen], rfl, rfl⟩⟩, (Below.refl _ _).alloc (Nat.le_refl _) _, Lib.hid rfl⟩
  case round =>
    obtain ⟨k, xs, cur, hk, rfl, hn, hxs, hcur, hown, hbel, HR⟩ := hrel
    by_cases hlt : k < s.size
    · by_cases h32 : (s[k].toNat : Int) = 32
      · have hb32 : ((s[k].toNat : Int) == 32) = true := by simp [h32]
        have HN := Lib.hid (HR.out.trans (by rw [wordsGo_at s cur k hlt (by omega)] : _ = xs ++ cur :: P.words [] (s.data.toList.drop (k + 1))))
        clear h32
        go_wp2_with (at_builtin; refine wpList_append_own _ rfl (.tmp 16) (.tmp 17) 34 rfl w.heap.size 9 i0 _ 1 16 Tryd.underlying34 hi0 hz0 hz1 hz2 rfl (by decide) _ (xs.length + 1) (strCells (xs ++ [cur])) rfl ?ho ⟨wr.heap.size, 0, none⟩ 1 1 [.string ⟨#[]⟩] rfl rfl ?c1 ?c2 ?c3 ?c4 ?c5 ?_)
        case ho => exact hown.alloc _
        case c1 => exact cell_one_new _ _ _
        case c2 => intro u hu; simp at hu; rcases hu with rfl; rfl
        case c3 => simp only [maxLen]; omega
        case c4 => omega
        case c5 => have := hbel.size; simp; omega
        intro v' w3 hown3 hg3 _
        have hb3 : Below w.heap.size w w3 := (hbel.alloc hbel.size _).grown hg3 (by have := hbel.size; simp; omega) (own_base hown)
        have hown4 : w3.ownsRow w.heap.size 9 1 v' ((xs ++ [cur]).length + 1) (strCells ((xs ++ [cur]) ++ [[]])) := by
          rw [strCells_snoc (xs ++ [cur]), List.length_append]; exact hown3
        clear hown hown3
        go_wp2_with fail
        go_roundg (s.size - (k + 1))
        case measure => omega
        case rel => exact ⟨k + 1, xs ++ [cur], [], by omega, by go_num, Nat.le_refl _, by simp; omega, by simp, hown4, hb3, Lib.hid (by rw [HN.out]; simp)⟩
      · have hb32 : ((s[k].toNat : Int) == 32) = false := by simp [h32]
        have HN := Lib.hid (HR.out.trans (by rw [wordsGo_on s cur k hlt (fun e => h32 (by omega))] : _ = xs ++ P.words (cur ++ [s[k]]) (s.data.toList.drop (k + 1))))
        have HX := Lib.hid (extract_one s k hlt)
        clear h32
        obtain ⟨g, cap, cs, hv, hg, hblk, hcs⟩ := own_block hown (by omega)
        subst hv
        have hcell : wr.cell? ⟨g, xs.length, none⟩ = some (.string ⟨cur.toArray⟩) := by
          rw [cell_of_row wr g _ cs _ (0, 0) hblk]
          exact hcs _ _ (by simp [strCells])
        have hfr : wr.frozen? ⟨g, xs.length, none⟩ = false := by simp [World.frozen?, hblk]
        have hst := hown.stored xs.length (.string ⟨(cur ++ [s[k]]).toArray⟩)
        have hset : (strCells (xs ++ [cur])).set xs.length (.string ⟨(cur ++ [s[k]]).toArray⟩) = strCells (xs ++ [cur ++ [s[k]]]) := by
          rw [strCells_snoc, strCells_snoc, List.set_append_right _ _ (by simp [strCells])]
          simp [strCells]
        rw [hset] at hst
        have HST := Lib.hid hst
        clear hst hset hblk hcs
        have hw1 : IntKind.i64.wrap ((k : Int) + 1) = (k : Int) + 1 := IntWalk.i64_in _ (by omega)
        have hw2 : IntKind.i64.wrap ((xs.length : Int) + 1 - 1) = (xs.length : Int) := by rw [show (xs.length : Int) + 1 - 1 = xs.length by omega]; exact IntWalk.i64_in _ (by omega)
        have hadd : (⟨cur.toArray⟩ : ByteArray).size + (s.extract k (k + 1)).size ≤ 9223372036854775807 := by
          rw [HX.out, list_size]; show cur.length + 1 ≤ _; omega
        have HV := Lib.hid (show (⟨cur.toArray⟩ : ByteArray) ++ s.extract k (k + 1) = ⟨(cur ++ [s[k]]).toArray⟩ by rw [HX.out]; exact str_append cur [s[k]])
        go_wp2_with fail
        go_region
        all_goals
          go_wp2_with fail
          go_roundg (s.size - (k + 1))
          case measure => omega
          case rel =>
            refine ⟨k + 1, xs, cur ++ [s[k]], by omega, by go_num, Nat.le_refl _, by omega, by simp; omega, ?_, ?_, HN⟩
            · rw [HV.out]; exact HST.out.1.drew
            · exact (hbel.setCell (p := ⟨g, xs.length, none⟩) hg _).drew
    · obtain rfl : k = s.size := by omega
      have HN := Lib.hid (HR.out.trans (by rw [wordsGo_end] : _ = xs ++ [cur]))
      go_wp2_with fail
      go_ret
      exact ⟨_, rfl, by rw [HN.out, List.length_append]; exact hown, hbel⟩
end Go.Proofs.YtbilhdfoajahkaaDoor.T
