/-
  The reference's Check (layer 3): what is wrong with a policy.
  The reference's Check (layer 3) of a policy whose numbers may be: what is hidden, users, floors.
-/
import Derived.Test.YtadhhamfikpimaaDoorGt
import Derived.Test.YtadhhamfikpimaaDoorGm
import Derived.Deep.RegionHeldLaw
import Derived.Deep.DrawnRows
import Derived.Deep.QuietTactic
import Derived.BigQuiet
namespace Go.Proofs.YtadhhamfikpimaaDoor.O
set_option linter.unusedVariables false
set_option linter.unusedSimpArgs false
open Go.RowKit
open T

theorem seen_pair {L C : Int} : ∀ (xs : List (List UInt8 × Int × Nat)) (seen : List (List UInt8)), seenOk L C seen xs = true → (∀ x ∈ xs, x.1 ∉ seen) ∧ (xs.map (·.1)).Pairwise (· ≠ ·)
  | [], seen, _ => ⟨fun x h => (by cases h), List.Pairwise.nil⟩
  | y :: r, seen, h => by
    rw [seenOk] at h
    simp only [Bool.and_eq_true, decide_eq_true_eq] at h
    obtain ⟨h1, h2⟩ := seen_pair r _ h.2
    refine ⟨fun x hx => ?_, ?_⟩
    · rcases List.mem_cons.1 hx with rfl | hx
      · exact h.1.1.1
      · exact fun hm => h1 x hx (List.mem_append_left _ hm)
    · rw [List.map_cons, List.pairwise_cons]
      refine ⟨fun a ha e => ?_, h2⟩
      obtain ⟨x, hx, rfl⟩ := List.mem_map.1 ha
      exact h1 x hx (List.mem_append_right _ (by rw [e]; exact List.mem_singleton.2 rfl))
theorem seen_dup {L C : Int} {xs : List (List UInt8 × Int × Nat)} {i k : Nat} (hi : i < xs.length) (hk : k < i) (e : (xs[k]'(by omega)).1 = xs[i].1) : seenOk L C [] xs = false := by
  cases h : seenOk L C [] xs with
  | false => rfl
  | true =>
    have h2 := (seen_pair xs [] h).2
    rw [List.pairwise_iff_getElem] at h2
    have := h2 k i (by rw [List.length_map]; omega) (by rw [List.length_map]; exact hi) hk
    simp only [List.getElem_map] at this
    exact absurd e this
theorem seen_badname {L C : Int} {xs : List (List UInt8 × Int × Nat)} {i : Nat} (hi : i < xs.length) (h : P.name xs[i].1 = false) : seenOk L C [] xs = false := by
  cases h2 : seenOk L C [] xs with
  | false => rfl
  | true => have := seen_name xs [] h2 _ (List.getElem_mem hi); rw [h] at this; cases this
theorem seen_badfit {L C : Int} {xs : List (List UInt8 × Int × Nat)} {i : Nat} (hi : i < xs.length) (h : fitsB L C xs[i].2.1 xs[i].2.2 = false) : seenOk L C [] xs = false := by
  cases h2 : seenOk L C [] xs with
  | false => rfl
  | true => have := seen_fits xs [] h2 _ (List.getElem_mem hi); rw [h] at this; cases this
theorem seen_on {L C : Int} {xs : List (List UInt8 × Int × Nat)} {i : Nat} (hi : i < xs.length) (h : seenOk L C [] (xs.take i) = true) (hn : P.name xs[i].1 = true) (hf : fitsB L C xs[i].2.1 xs[i].2.2 = true) (hd : ∀ k (hk : k < i), (xs[k]'(by omega)).1 ≠ xs[i].1) : seenOk L C [] (xs.take (i + 1)) = true := by
  rw [List.take_add_one, List.getElem?_eq_getElem hi]
  refine seen_snoc _ _ _ h (by simp) (fun hm => ?_) hn hf
  obtain ⟨x, hx, e⟩ := List.mem_map.1 hm
  obtain ⟨k, hk, rfl⟩ := List.getElem_of_mem hx
  rw [List.length_take] at hk
  rw [List.getElem_take] at e
  exact hd k (by omega) e

set_option maxRecDepth 100000 in
set_option maxHeartbeats 8000000 in
theorem rck_nums (n0 n1 n2 n3 n4 n5 : Int) (hid : ByteArray) (uA fA : Option Addr) (un fn ucap fcap : Nat) (w : World) (h : numsOk [n0, n1, n2, n3, n4, n5] = false) :
    Calls Tryd.prog 19 #[polA n0 n1 n2 n3 n4 n5 hid (.slice uA un ucap) (.slice fA fn fcap)] w fun e w' => e = .returned (.int .i64 2) ∧ Below w.heap.size w w' := by
  by_cases g0 : n0 < 1
  · clear h
    go_enter Tryd.func19, Tryd.ntmps19
    go_wp2_with fail
    go_ret
    exact ⟨rfl, (Below.refl _ _).alloc (Nat.le_refl _) _⟩
  by_cases g1 : 16 < n0
  · clear h
    go_enter Tryd.func19, Tryd.ntmps19
    go_wp2_with fail
    go_ret
    exact ⟨rfl, (Below.refl _ _).alloc (Nat.le_refl _) _⟩
  by_cases g2 : n1 < 0
  · clear h
    go_enter Tryd.func19, Tryd.ntmps19
    go_wp2_with fail
    go_ret
    exact ⟨rfl, (Below.refl _ _).alloc (Nat.le_refl _) _⟩
  by_cases g3 : 64 < n1
  · clear h
    go_enter Tryd.func19, Tryd.ntmps19
    go_wp2_with fail
    go_ret
    exact ⟨rfl, (Below.refl _ _).alloc (Nat.le_refl _) _⟩
  by_cases g4 : n2 < 1
  · clear h
    go_enter Tryd.func19, Tryd.ntmps19
    go_wp2_with fail
    go_ret
    exact ⟨rfl, (Below.refl _ _).alloc (Nat.le_refl _) _⟩
  by_cases g5 : 400 < n2
  · clear h
    go_enter Tryd.func19, Tryd.ntmps19
    go_wp2_with fail
    go_ret
    exact ⟨rfl, (Below.refl _ _).alloc (Nat.le_refl _) _⟩
  by_cases g6 : n3 < 0
  · clear h
    go_enter Tryd.func19, Tryd.ntmps19
    go_wp2_with fail
    go_ret
    exact ⟨rfl, (Below.refl _ _).alloc (Nat.le_refl _) _⟩
  by_cases g7 : 64 < n3
  · clear h
    go_enter Tryd.func19, Tryd.ntmps19
    go_wp2_with fail
    go_ret
    exact ⟨rfl, (Below.refl _ _).alloc (Nat.le_refl _) _⟩
  by_cases g8 : n4 < 1
  · clear h
    go_enter Tryd.func19, Tryd.ntmps19
    go_wp2_with fail
    go_ret
    exact ⟨rfl, (Below.refl _ _).alloc (Nat.le_refl _) _⟩
  by_cases g9 : 200 < n4
  · clear h
    go_enter Tryd.func19, Tryd.ntmps19
    go_wp2_with fail
    go_ret
    exact ⟨rfl, (Below.refl _ _).alloc (Nat.le_refl _) _⟩
  by_cases g10 : n5 < 0
  · clear h
    go_enter Tryd.func19, Tryd.ntmps19
    go_wp2_with fail
    go_ret
    exact ⟨rfl, (Below.refl _ _).alloc (Nat.le_refl _) _⟩
  by_cases g11 : 20 < n5
  · clear h
    go_enter Tryd.func19, Tryd.ntmps19
    go_wp2_with fail
    go_ret
    exact ⟨rfl, (Below.refl _ _).alloc (Nat.le_refl _) _⟩
  have : numsOk [n0, n1, n2, n3, n4, n5] = true := nums_good (fun k hk => by
    match k, hk with
    | 0, _ => (show inB 1 16 n0 = true; unfold inB; rw [Bool.and_eq_true, decide_eq_true_iff, decide_eq_true_iff]; omega)
    | 1, _ => (show inB 0 64 n1 = true; unfold inB; rw [Bool.and_eq_true, decide_eq_true_iff, decide_eq_true_iff]; omega)
    | 2, _ => (show inB 1 400 n2 = true; unfold inB; rw [Bool.and_eq_true, decide_eq_true_iff, decide_eq_true_iff]; omega)
    | 3, _ => (show inB 0 64 n3 = true; unfold inB; rw [Bool.and_eq_true, decide_eq_true_iff, decide_eq_true_iff]; omega)
    | 4, _ => (show inB 1 200 n4 = true; unfold inB; rw [Bool.and_eq_true, decide_eq_true_iff, decide_eq_true_iff]; omega)
    | 5, _ => (show inB 0 20 n5 = true; unfold inB; rw [Bool.and_eq_true, decide_eq_true_iff, decide_eq_true_iff]; omega)
  )
  rw [h] at this
  cases this
end Go.Proofs.YtadhhamfikpimaaDoor.O

namespace Go.Proofs.YtadhhamfikpimaaDoor.O
set_option linter.unusedVariables false
set_option linter.unusedSimpArgs false
open Go.RowKit
open T

def CkEnd (w : World) (ok : Bool) (e : Ending) (w' : World) : Prop := e = .returned (.int .i64 (if ok = true then 0 else 2)) ∧ Below w.heap.size w w'
theorem UsersIn.at0 {w : World} {bk off : Nat} {us : List Usr} (h : UsersIn w (some ⟨bk, off, none⟩) us) (hp : 0 < us.length) : bk < w.heap.size := by
  obtain ⟨b, o, e, hl, _⟩ := h hp
  injection e with e
  injection e with e1 e2
  rw [e1]; exact hl
theorem UsersIn.nm {w : World} {bk off : Nat} {us : List Usr} (h : UsersIn w (some ⟨bk, off, none⟩) us) (hp : 0 < us.length) : ∀ j (hj : j < us.length), w.cell? ⟨bk, off + j * 4, none⟩ = some (.string ⟨us[j].name.toArray⟩) := by
  obtain ⟨b, o, e, hl, hc⟩ := h hp
  injection e with e
  injection e with e1 e2
  rw [e1, e2]
  exact fun j hj => (hc j hj).1
theorem FloorsIn.at0 {w : World} {bk off : Nat} {us : List Flr} (h : FloorsIn w (some ⟨bk, off, none⟩) us) (hp : 0 < us.length) : bk < w.heap.size := by
  obtain ⟨b, o, e, hl, _⟩ := h hp
  injection e with e
  injection e with e1 e2
  rw [e1]; exact hl
theorem FloorsIn.nm {w : World} {bk off : Nat} {us : List Flr} (h : FloorsIn w (some ⟨bk, off, none⟩) us) (hp : 0 < us.length) : ∀ j (hj : j < us.length), w.cell? ⟨bk, off + j * 3, none⟩ = some (.string ⟨us[j].pre.toArray⟩) := by
  obtain ⟨b, o, e, hl, hc⟩ := h hp
  injection e with e
  injection e with e1 e2
  rw [e1, e2]
  exact fun j hj => (hc j hj).1

set_option maxRecDepth 100000 in
set_option maxHeartbeats 16000000 in
theorem rck_loops (n0 n1 n2 n3 n4 n5 : Int) (hid : ByteArray) (uA fA : Option Addr) (ucap fcap : Nat) (us : List Usr) (fs : List Flr) (ok : Bool) (w : World)
    (g0 : ¬ n0 < 1)
    (g1 : ¬ 16 < n0)
    (g2 : ¬ n1 < 0)
    (g3 : ¬ 64 < n1)
    (g4 : ¬ n2 < 1)
    (g5 : ¬ 400 < n2)
    (g6 : ¬ n3 < 0)
    (g7 : ¬ 64 < n3)
    (g8 : ¬ n4 < 1)
    (g9 : ¬ 200 < n4)
    (g10 : ¬ n5 < 0)
    (g11 : ¬ 20 < n5)
    (HU : Hid (UsersIn w uA us)) (HF : Hid (FloorsIn w fA fs)) (hul : us.length ≤ 32) (hfl : fs.length ≤ 32) (HUC : Hid (∀ u ∈ us, u.ct < 18446744073709551616 ∧ u.name.length ≤ maxLen)) (HFC : Hid (∀ u ∈ fs, u.ct < 18446744073709551616 ∧ u.pre.length ≤ maxLen))
    (HPL : Hid (∀ W : World, Calls Tryd.prog 45 #[.string hid] W fun e w' => e = .returned (.bool true) ∧ W = w')) (HOK : Hid (ok = (seenOk n0 n1 [] (us.map fun u => (u.name, u.lv, u.ct)) && seenOk n0 n1 [] (fs.map fun u => (u.pre, u.lv, u.ct))))) :
    Calls Tryd.prog 19 #[polA n0 n1 n2 n3 n4 n5 hid (.slice uA us.length ucap) (.slice fA fs.length fcap)] w (CkEnd w ok) := by
  obtain ⟨W0, hW0⟩ : ∃ W0 : World, W0 = w.alloc (.cells #[.int .i64 n0, .int .i64 n1, .int .i64 n2, .int .i64 n3, .int .i64 n4, .int .i64 n5, .string hid, .slice uA us.length ucap, .slice fA fs.length fcap] 26) := ⟨_, rfl⟩
  have HP0 := Lib.hid (show W0.heap[w.heap.size]? = some (.cells #[.int .i64 n0, .int .i64 n1, .int .i64 n2, .int .i64 n3, .int .i64 n4, .int .i64 n5, .string hid, .slice uA us.length ucap, .slice fA fs.length fcap] 26 (0, 0)) by rw [hW0]; exact heap_alloc_new w _)
  have HB0 := Lib.hid (show Below w.heap.size w W0 by rw [hW0]; exact (Below.refl _ _).alloc (Nat.le_refl _) _)
  have HU0 := Lib.hid (HU.out.below HB0.out)
  have HF0 := Lib.hid (HF.out.below HB0.out)
  clear HU HF
  go_enter Tryd.func19, Tryd.ntmps19
  go_wp2_with fail
  rw [← hW0]
  clear hW0 g0 g1 g2 g3 g4 g5 g6 g7 g8 g9 g10 g11
  obtain ⟨pb, hpb⟩ : ∃ pb, pb = w.heap.size := ⟨_, rfl⟩
  rw [← hpb] at HP0 ⊢
  have HPB := Lib.hid hpb
  clear hpb
  with_reducible refine (HPL.out W0).mono ?_
  rintro e w' ⟨rfl, rfl⟩
  have p7 : W0.cell? ⟨pb, 7, none⟩ = some (.slice uA us.length ucap) := L.blk_cell HP0.out 7
  have p8 : W0.cell? ⟨pb, 8, none⟩ = some (.slice fA fs.length fcap) := L.blk_cell HP0.out 8
  have hu32 : ¬ (32 : Int) < (us.length : Int) := by omega
  have hf32 : ¬ (32 : Int) < (fs.length : Int) := by omega
  go_wp2_with fail
  clear p7 p8 hu32 hf32 HPL
  go_loopg [3] us.length (fun m i wr => ∃ j : Nat, j ≤ us.length ∧ i = .int .i64 j ∧ us.length - j ≤ m ∧ Hid (Below W0.heap.size W0 wr) ∧ Hid (seenOk n0 n1 [] ((us.map fun u => (u.name, u.lv, u.ct)).take j) = true))
  case atStart => exact ⟨0, Nat.zero_le _, rfl, by omega, Lib.hid (Below.refl _ _), Lib.hid rfl⟩
  case round =>
    obtain ⟨j, hj, rfl, hm, HB, HS⟩ := hrel
    have HP := Lib.hid ((HB.out.block pb (L.blk_lt HP0.out)).trans HP0.out)
    by_cases hlt : j < us.length
    · obtain ⟨bk, off, hAe, hbk, hB⟩ := (HU0.out.below HB.out) (by omega)
      subst hAe
      obtain ⟨c0, c1, c2, c3⟩ := hB j hlt
      have hct := HUC.out _ (List.getElem_mem hlt)
      have hkl : j < (us.map fun u => (u.name, u.lv, u.ct)).length := by rw [List.length_map]; exact hlt
      have HBN := Lib.hid (fun (h : P.name us[j].name = false) => seen_badname (L := n0) (C := n1) hkl (by rw [List.getElem_map]; exact h))
      have HBF := Lib.hid (fun (h : fitsB n0 n1 us[j].lv us[j].ct = false) => seen_badfit (L := n0) (C := n1) hkl (by rw [List.getElem_map]; exact h))
      have HDP := Lib.hid (fun (k : Nat) (hk : k < j) (h : (us[k]'(by omega)).name = us[j].name) => seen_dup (L := n0) (C := n1) hkl hk (by rw [List.getElem_map, List.getElem_map]; exact h))
      have HGO := Lib.hid (fun (h1 : P.name us[j].name = true) (h2 : fitsB n0 n1 us[j].lv us[j].ct = true) (h3 : ∀ k (hk : k < us.length), k < j → us[k].name ≠ us[j].name) => seen_on (L := n0) (C := n1) hkl HS.out (by rw [List.getElem_map]; exact h1) (by rw [List.getElem_map]; exact h2) (fun k hk => by rw [List.getElem_map, List.getElem_map]; exact h3 k (by omega) hk))
      have HBKL := Lib.hid (show bk < W0.heap.size from (HU0.out.at0 (by omega)))
      have HIN0 := Lib.hid (HU0.out.nm (by omega))
      obtain ⟨u, hu⟩ : ∃ u, u = us[j] := ⟨_, rfl⟩
      rw [← hu] at c0 c1 c2 hct HBN HBF HDP HGO
      have hnm := fun (W : World) => refName_any ⟨u.name.toArray⟩ W (by rw [list_size]; exact hct.2)
      simp only [list_data] at hnm
      have hft := fun (W : World) => refFits_any n0 n1 n2 n3 n4 n5 hid (some ⟨bk, off, none⟩) fA us.length fs.length ucap fcap u.lv u.ct W hct.1
      obtain ⟨x, hx⟩ : ∃ x : ByteArray, x = ⟨u.name.toArray⟩ := ⟨_, rfl⟩
      rw [← hx] at c0
      simp only [← hx] at hnm
      have HNM := Lib.hid hnm
      have HFT := Lib.hid hft
      have HXU := Lib.hid hx
      have hu' := Lib.hid hu
      obtain ⟨ul, hul'⟩ : ∃ l, l = u.lv := ⟨_, rfl⟩
      obtain ⟨uc, huc'⟩ : ∃ c, c = u.ct := ⟨_, rfl⟩
      rw [← hul'] at c1 HBF HGO HFT
      rw [← huc'] at c2 HBF HGO HFT
      clear hnm hft hx hu hul' huc' hB hct hkl
      have h0j : (0 : Int) ≤ (j : Int) := by omega
      have hji : (j : Int) < (us.length : Int) := by omega
      obtain ⟨a0, a1, a2, a3, a4, a5, a6, a7, a8⟩ := pol_cells HP.out
      have hpl : pb < wr.heap.size := L.blk_lt HP.out
      have HSX : Hid (∀ wz, Below wr.heap.size wr wz → wz.cell? ⟨pb, 0, none⟩ = some (.int .i64 n0) ∧ wz.cell? ⟨pb, 1, none⟩ = some (.int .i64 n1) ∧ wz.cell? ⟨pb, 2, none⟩ = some (.int .i64 n2) ∧ wz.cell? ⟨pb, 3, none⟩ = some (.int .i64 n3) ∧ wz.cell? ⟨pb, 4, none⟩ = some (.int .i64 n4) ∧ wz.cell? ⟨pb, 5, none⟩ = some (.int .i64 n5) ∧ wz.cell? ⟨pb, 6, none⟩ = some (.string hid) ∧ wz.cell? ⟨pb, 7, none⟩ = some (.slice (some ⟨bk, off, none⟩) us.length ucap) ∧ wz.cell? ⟨pb, 8, none⟩ = some (.slice fA fs.length fcap) ∧ wz.cell? ⟨bk, off + j * 4, none⟩ = some (.string x) ∧ wz.cell? ⟨bk, off + j * 4 + 1, none⟩ = some (.int .i64 ul) ∧ wz.cell? ⟨bk, off + j * 4 + 2, none⟩ = some (.int .u64 (uc : Int)) ∧ Below wr.heap.size wr wz) := Lib.hid (fun wz h => ⟨cell_later h a0, cell_later h a1, cell_later h a2, cell_later h a3, cell_later h a4, cell_later h a5, cell_later h a6, cell_later h a7, cell_later h a8, cell_later h c0, cell_later h c1, cell_later h c2, h⟩)
      clear c0 c1 c2 c3 a0 a1 a2 a3 a4 a5 a6 a8
      cases hbn : P.name u.name with
      | false =>
        rw [hbn] at HNM
        have HNO := Lib.hid (show ok = false by rw [HOK.out, HBN.out hbn]; rfl)
        clear HBN HBF HDP HGO hbn HFT
        go_wp2_with fail
        refine wp_region_held_drew (S := fun wz => wz.cell? ⟨pb, 0, none⟩ = some (.int .i64 n0) ∧ wz.cell? ⟨pb, 1, none⟩ = some (.int .i64 n1) ∧ wz.cell? ⟨pb, 2, none⟩ = some (.int .i64 n2) ∧ wz.cell? ⟨pb, 3, none⟩ = some (.int .i64 n3) ∧ wz.cell? ⟨pb, 4, none⟩ = some (.int .i64 n4) ∧ wz.cell? ⟨pb, 5, none⟩ = some (.int .i64 n5) ∧ wz.cell? ⟨pb, 6, none⟩ = some (.string hid) ∧ wz.cell? ⟨pb, 7, none⟩ = some (.slice (some ⟨bk, off, none⟩) us.length ucap) ∧ wz.cell? ⟨pb, 8, none⟩ = some (.slice fA fs.length fcap) ∧ wz.cell? ⟨bk, off + j * 4, none⟩ = some (.string x) ∧ wz.cell? ⟨bk, off + j * 4 + 1, none⟩ = some (.int .i64 ul) ∧ wz.cell? ⟨bk, off + j * 4 + 2, none⟩ = some (.int .u64 (uc : Int)) ∧ Below wr.heap.size wr wz) (by kernel_rfl) (HSX.out _ (drew_below wr)) (fun hH0 => ?_)
        generalize wr.drew = wA at *
        refine wpAnyH_take (i := 0) (oi := { dst := some 88, op := Go.Op.fieldAddr 26 (Go.Operand.tmp 1) 7, type := 0, pos := "ref.go:41", after := #[], guard := none }) (v := ?_) rfl (by kernel_rfl) (by kernel_rfl) (by kernel_rfl) (fun _ _ _ h => h) (Or.inl ⟨by rfl, ?_⟩) hH0 ?_
        rotate_left
        · (intro wz hSz; (try dsimp only at hSz); go_simp; try with_reducible rfl)
        try simp only [Act.put, List.setIfInBounds_toArray, List.set_cons_zero, List.set_cons_succ]
        refine wpAnyH_take (i := 1) (oi := { dst := some 89, op := Go.Op.load 23 (Go.Operand.tmp 88), type := 23, pos := "ref.go:41", after := #[{ on := 0, ground := Go.Ground.data }], guard := none }) (v := ?_) rfl (by kernel_rfl) (by kernel_rfl) (by kernel_rfl) (fun _ _ _ h => h) (Or.inl ⟨by rfl, ?_⟩) hH0 ?_
        rotate_left
        · (intro wz hSz; (try dsimp only at hSz); go_simp; try with_reducible rfl)
        try simp only [Act.put, List.setIfInBounds_toArray, List.set_cons_zero, List.set_cons_succ]
        refine wpAnyH_take (i := 2) (oi := { dst := some 90, op := Go.Op.move (Go.Operand.tmp 3), type := 3, pos := "ref.go:41", after := #[], guard := none }) (v := ?_) rfl (by kernel_rfl) (by kernel_rfl) (by kernel_rfl) (fun _ _ _ h => h) (Or.inl ⟨by rfl, ?_⟩) hH0 ?_
        rotate_left
        · (intro wz hSz; (try dsimp only at hSz); go_simp; try with_reducible rfl)
        try simp only [Act.put, List.setIfInBounds_toArray, List.set_cons_zero, List.set_cons_succ]
        refine wpAnyH_take (i := 3) (oi := { dst := some 91, op := Go.Op.indexAddr 23 (Go.Operand.tmp 89) (Go.Operand.tmp 90), type := 0, pos := "ref.go:41", after := #[{ on := 1, ground := Go.Ground.data }, { on := 2, ground := Go.Ground.data }], guard := none }) (v := ?_) rfl (by kernel_rfl) (by kernel_rfl) (by kernel_rfl) (fun _ _ _ h => h) (Or.inl ⟨by rfl, ?_⟩) hH0 ?_
        rotate_left
        · (intro wz hSz; (try dsimp only at hSz); go_simp; try with_reducible rfl)
        try simp only [Act.put, List.setIfInBounds_toArray, List.set_cons_zero, List.set_cons_succ]
        refine wpAnyH_take (i := 4) (oi := { dst := some 92, op := Go.Op.fieldAddr 72 (Go.Operand.tmp 91) 0, type := 0, pos := "ref.go:41", after := #[{ on := 3, ground := Go.Ground.data }], guard := none }) (v := ?_) rfl (by kernel_rfl) (by kernel_rfl) (by kernel_rfl) (fun _ _ _ h => h) (Or.inl ⟨by rfl, ?_⟩) hH0 ?_
        rotate_left
        · (intro wz hSz; (try dsimp only at hSz); go_simp; try with_reducible rfl)
        try simp only [Act.put, List.setIfInBounds_toArray, List.set_cons_zero, List.set_cons_succ]
        refine wpAnyH_take (i := 5) (oi := { dst := some 93, op := Go.Op.load 9 (Go.Operand.tmp 92), type := 9, pos := "ref.go:41", after := #[{ on := 4, ground := Go.Ground.data }], guard := none }) (v := ?_) rfl (by kernel_rfl) (by kernel_rfl) (by kernel_rfl) (fun _ _ _ h => h) (Or.inl ⟨by rfl, ?_⟩) hH0 ?_
        rotate_left
        · (intro wz hSz; (try dsimp only at hSz); go_simp; try with_reducible rfl)
        try simp only [Act.put, List.setIfInBounds_toArray, List.set_cons_zero, List.set_cons_succ]
        refine wpAnyH_ready (rs := [6]) (by kernel_rfl) (by simp) ?_
        refine AllReadyH.cons (o := { dst := some 94, op := Go.Op.call { callee := Go.Callee.value (Go.Operand.func 46), args := #[Go.Operand.tmp 93], argTypes := #[9] }, type := 4, pos := "ref.go:41", after := #[{ on := 5, ground := Go.Ground.data }], guard := none }) rfl (fun K hK => ?_) AllReadyH.nil
        go_simp
        with_reducible refine (HNM.out _).mono ?_
        rintro r w2 ⟨rfl, rfl⟩
        go_wp2_with fail
        refine hK.out _ _ hH0 (fun hH1 => ?_)
        clear hK K hH0
        try simp only [Act.put, List.setIfInBounds_toArray, List.set_cons_zero, List.set_cons_succ]
        refine wpAnyH_take (i := 7) (oi := { dst := some 95, op := Go.Op.unOp Go.UnOp.not 4 (Go.Operand.tmp 94), type := 4, pos := "ref.go:41", after := #[{ on := 6, ground := Go.Ground.data }], guard := none }) (v := ?_) rfl (by kernel_rfl) (by kernel_rfl) (by kernel_rfl) (fun _ _ _ h => h) (Or.inl ⟨by rfl, ?_⟩) hH1 ?_
        rotate_left
        · (intro wz hSz; (try dsimp only at hSz); go_simp; try with_reducible rfl)
        try simp only [Act.put, List.setIfInBounds_toArray, List.set_cons_zero, List.set_cons_succ]
        refine wpAnyH_take (i := 8) (oi := { dst := some 96, op := Go.Op.move (Go.Operand.tmp 95), type := 4, pos := "ref.go:41", after := #[{ on := 7, ground := Go.Ground.data }, { on := 6, ground := Go.Ground.chain }], guard := none }) (v := ?_) rfl (by kernel_rfl) (by kernel_rfl) (by kernel_rfl) (fun _ _ _ h => h) (Or.inl ⟨by rfl, ?_⟩) hH1 ?_
        rotate_left
        · (intro wz hSz; (try dsimp only at hSz); go_simp; try with_reducible rfl)
        try simp only [Act.put, List.setIfInBounds_toArray, List.set_cons_zero, List.set_cons_succ]
        refine wpAnyH_take (i := 9) (oi := { dst := some 97, op := Go.Op.load 26 (Go.Operand.tmp 1), type := 26, pos := "ref.go:41", after := #[{ on := 8, ground := Go.Ground.guard }], guard := some (8, false) }) (v := undef) rfl (by kernel_rfl) (by kernel_rfl) (by kernel_rfl) (fun _ _ _ h => h) (Or.inr ⟨by rfl, rfl⟩) hH1 ?_
        try simp only [Act.put, List.setIfInBounds_toArray, List.set_cons_zero, List.set_cons_succ]
        refine wpAnyH_take (i := 10) (oi := { dst := some 98, op := Go.Op.fieldAddr 26 (Go.Operand.tmp 1) 7, type := 0, pos := "ref.go:41", after := #[{ on := 8, ground := Go.Ground.guard }], guard := some (8, false) }) (v := undef) rfl (by kernel_rfl) (by kernel_rfl) (by kernel_rfl) (fun _ _ _ h => h) (Or.inr ⟨by rfl, rfl⟩) hH1 ?_
        try simp only [Act.put, List.setIfInBounds_toArray, List.set_cons_zero, List.set_cons_succ]
        refine wpAnyH_take (i := 11) (oi := { dst := some 99, op := Go.Op.load 23 (Go.Operand.tmp 98), type := 23, pos := "ref.go:41", after := #[{ on := 10, ground := Go.Ground.data }, { on := 8, ground := Go.Ground.guard }], guard := some (8, false) }) (v := undef) rfl (by kernel_rfl) (by kernel_rfl) (by kernel_rfl) (fun _ _ _ h => h) (Or.inr ⟨by rfl, rfl⟩) hH1 ?_
        try simp only [Act.put, List.setIfInBounds_toArray, List.set_cons_zero, List.set_cons_succ]
        refine wpAnyH_take (i := 12) (oi := { dst := some 100, op := Go.Op.move (Go.Operand.tmp 3), type := 3, pos := "ref.go:41", after := #[{ on := 8, ground := Go.Ground.guard }], guard := some (8, false) }) (v := undef) rfl (by kernel_rfl) (by kernel_rfl) (by kernel_rfl) (fun _ _ _ h => h) (Or.inr ⟨by rfl, rfl⟩) hH1 ?_
        try simp only [Act.put, List.setIfInBounds_toArray, List.set_cons_zero, List.set_cons_succ]
        refine wpAnyH_take (i := 13) (oi := { dst := some 101, op := Go.Op.indexAddr 23 (Go.Operand.tmp 99) (Go.Operand.tmp 100), type := 0, pos := "ref.go:41", after := #[{ on := 11, ground := Go.Ground.data }, { on := 12, ground := Go.Ground.data }, { on := 8, ground := Go.Ground.guard }], guard := some (8, false) }) (v := undef) rfl (by kernel_rfl) (by kernel_rfl) (by kernel_rfl) (fun _ _ _ h => h) (Or.inr ⟨by rfl, rfl⟩) hH1 ?_
        try simp only [Act.put, List.setIfInBounds_toArray, List.set_cons_zero, List.set_cons_succ]
        refine wpAnyH_take (i := 14) (oi := { dst := some 102, op := Go.Op.fieldAddr 72 (Go.Operand.tmp 101) 1, type := 0, pos := "ref.go:41", after := #[{ on := 13, ground := Go.Ground.data }, { on := 8, ground := Go.Ground.guard }], guard := some (8, false) }) (v := undef) rfl (by kernel_rfl) (by kernel_rfl) (by kernel_rfl) (fun _ _ _ h => h) (Or.inr ⟨by rfl, rfl⟩) hH1 ?_
        try simp only [Act.put, List.setIfInBounds_toArray, List.set_cons_zero, List.set_cons_succ]
        refine wpAnyH_take (i := 15) (oi := { dst := some 103, op := Go.Op.load 40 (Go.Operand.tmp 102), type := 40, pos := "ref.go:41", after := #[{ on := 14, ground := Go.Ground.data }, { on := 8, ground := Go.Ground.guard }], guard := some (8, false) }) (v := undef) rfl (by kernel_rfl) (by kernel_rfl) (by kernel_rfl) (fun _ _ _ h => h) (Or.inr ⟨by rfl, rfl⟩) hH1 ?_
        try simp only [Act.put, List.setIfInBounds_toArray, List.set_cons_zero, List.set_cons_succ]
        refine wpAnyH_take (i := 16) (oi := { dst := some 104, op := Go.Op.call { callee := Go.Callee.value (Go.Operand.func 30), args := #[Go.Operand.tmp 97, Go.Operand.tmp 103], argTypes := #[26, 40] }, type := 4, pos := "ref.go:41", after := #[{ on := 9, ground := Go.Ground.data }, { on := 15, ground := Go.Ground.data }, { on := 8, ground := Go.Ground.chain }, { on := 8, ground := Go.Ground.guard }], guard := some (8, false) }) (v := undef) rfl (by kernel_rfl) (by kernel_rfl) (by kernel_rfl) (fun _ _ _ h => h) (Or.inr ⟨by rfl, rfl⟩) hH1 ?_
        try simp only [Act.put, List.setIfInBounds_toArray, List.set_cons_zero, List.set_cons_succ]
        refine wpAnyH_take (i := 17) (oi := { dst := some 105, op := Go.Op.unOp Go.UnOp.not 4 (Go.Operand.tmp 104), type := 4, pos := "ref.go:41", after := #[{ on := 16, ground := Go.Ground.data }, { on := 8, ground := Go.Ground.guard }], guard := some (8, false) }) (v := undef) rfl (by kernel_rfl) (by kernel_rfl) (by kernel_rfl) (fun _ _ _ h => h) (Or.inr ⟨by rfl, rfl⟩) hH1 ?_
        try simp only [Act.put, List.setIfInBounds_toArray, List.set_cons_zero, List.set_cons_succ]
        refine wpAnyH_take (i := 18) (oi := { dst := some 106, op := Go.Op.pick (Go.Operand.tmp 96) (Go.Operand.const (Go.Value.bool true)) (Go.Operand.tmp 105), type := 4, pos := "ref.go:41", after := #[{ on := 8, ground := Go.Ground.data }, { on := 17, ground := Go.Ground.data }], guard := none }) (v := ?_) rfl (by kernel_rfl) (by kernel_rfl) (by kernel_rfl) (fun _ _ _ h => h) (Or.inl ⟨by rfl, ?_⟩) hH1 ?_
        rotate_left
        · (intro wz hSz; (try dsimp only at hSz); go_simp; try with_reducible rfl)
        try simp only [Act.put, List.setIfInBounds_toArray, List.set_cons_zero, List.set_cons_succ]
        refine wpAnyH_done (by kernel_rfl) ?_ _
        have HBX := Lib.hid (HB.out.trans (hH1.2.2.2.2.2.2.2.2.2.2.2.2.mono HB.out.size))
        clear hH1
        go_wp2_with fail
        go_ret
        exact ⟨by rw [HNO.out]; rfl, (HB0.out.trans (HBX.out.mono HB0.out.size))⟩
      | true =>
        rw [hbn] at HNM
        cases hbf : fitsB n0 n1 ul uc with
        | false =>
          rw [hbf] at HFT
          have HNO := Lib.hid (show ok = false by rw [HOK.out, HBF.out hbf]; rfl)
          clear HBN HBF HDP HGO hbn hbf
          go_wp2_with fail
          refine wp_region_held_drew (S := fun wz => wz.cell? ⟨pb, 0, none⟩ = some (.int .i64 n0) ∧ wz.cell? ⟨pb, 1, none⟩ = some (.int .i64 n1) ∧ wz.cell? ⟨pb, 2, none⟩ = some (.int .i64 n2) ∧ wz.cell? ⟨pb, 3, none⟩ = some (.int .i64 n3) ∧ wz.cell? ⟨pb, 4, none⟩ = some (.int .i64 n4) ∧ wz.cell? ⟨pb, 5, none⟩ = some (.int .i64 n5) ∧ wz.cell? ⟨pb, 6, none⟩ = some (.string hid) ∧ wz.cell? ⟨pb, 7, none⟩ = some (.slice (some ⟨bk, off, none⟩) us.length ucap) ∧ wz.cell? ⟨pb, 8, none⟩ = some (.slice fA fs.length fcap) ∧ wz.cell? ⟨bk, off + j * 4, none⟩ = some (.string x) ∧ wz.cell? ⟨bk, off + j * 4 + 1, none⟩ = some (.int .i64 ul) ∧ wz.cell? ⟨bk, off + j * 4 + 2, none⟩ = some (.int .u64 (uc : Int)) ∧ Below wr.heap.size wr wz) (by kernel_rfl) (HSX.out _ (drew_below wr)) (fun hH0 => ?_)
          generalize wr.drew = wA at *
          refine wpAnyH_take (i := 0) (oi := { dst := some 88, op := Go.Op.fieldAddr 26 (Go.Operand.tmp 1) 7, type := 0, pos := "ref.go:41", after := #[], guard := none }) (v := ?_) rfl (by kernel_rfl) (by kernel_rfl) (by kernel_rfl) (fun _ _ _ h => h) (Or.inl ⟨by rfl, ?_⟩) hH0 ?_
          rotate_left
          · (intro wz hSz; (try dsimp only at hSz); go_simp; try with_reducible rfl)
          try simp only [Act.put, List.setIfInBounds_toArray, List.set_cons_zero, List.set_cons_succ]
          refine wpAnyH_take (i := 1) (oi := { dst := some 89, op := Go.Op.load 23 (Go.Operand.tmp 88), type := 23, pos := "ref.go:41", after := #[{ on := 0, ground := Go.Ground.data }], guard := none }) (v := ?_) rfl (by kernel_rfl) (by kernel_rfl) (by kernel_rfl) (fun _ _ _ h => h) (Or.inl ⟨by rfl, ?_⟩) hH0 ?_
          rotate_left
          · (intro wz hSz; (try dsimp only at hSz); go_simp; try with_reducible rfl)
          try simp only [Act.put, List.setIfInBounds_toArray, List.set_cons_zero, List.set_cons_succ]
          refine wpAnyH_take (i := 2) (oi := { dst := some 90, op := Go.Op.move (Go.Operand.tmp 3), type := 3, pos := "ref.go:41", after := #[], guard := none }) (v := ?_) rfl (by kernel_rfl) (by kernel_rfl) (by kernel_rfl) (fun _ _ _ h => h) (Or.inl ⟨by rfl, ?_⟩) hH0 ?_
          rotate_left
          · (intro wz hSz; (try dsimp only at hSz); go_simp; try with_reducible rfl)
          try simp only [Act.put, List.setIfInBounds_toArray, List.set_cons_zero, List.set_cons_succ]
          refine wpAnyH_take (i := 3) (oi := { dst := some 91, op := Go.Op.indexAddr 23 (Go.Operand.tmp 89) (Go.Operand.tmp 90), type := 0, pos := "ref.go:41", after := #[{ on := 1, ground := Go.Ground.data }, { on := 2, ground := Go.Ground.data }], guard := none }) (v := ?_) rfl (by kernel_rfl) (by kernel_rfl) (by kernel_rfl) (fun _ _ _ h => h) (Or.inl ⟨by rfl, ?_⟩) hH0 ?_
          rotate_left
          · (intro wz hSz; (try dsimp only at hSz); go_simp; try with_reducible rfl)
          try simp only [Act.put, List.setIfInBounds_toArray, List.set_cons_zero, List.set_cons_succ]
          refine wpAnyH_take (i := 4) (oi := { dst := some 92, op := Go.Op.fieldAddr 72 (Go.Operand.tmp 91) 0, type := 0, pos := "ref.go:41", after := #[{ on := 3, ground := Go.Ground.data }], guard := none }) (v := ?_) rfl (by kernel_rfl) (by kernel_rfl) (by kernel_rfl) (fun _ _ _ h => h) (Or.inl ⟨by rfl, ?_⟩) hH0 ?_
          rotate_left
          · (intro wz hSz; (try dsimp only at hSz); go_simp; try with_reducible rfl)
          try simp only [Act.put, List.setIfInBounds_toArray, List.set_cons_zero, List.set_cons_succ]
          refine wpAnyH_take (i := 5) (oi := { dst := some 93, op := Go.Op.load 9 (Go.Operand.tmp 92), type := 9, pos := "ref.go:41", after := #[{ on := 4, ground := Go.Ground.data }], guard := none }) (v := ?_) rfl (by kernel_rfl) (by kernel_rfl) (by kernel_rfl) (fun _ _ _ h => h) (Or.inl ⟨by rfl, ?_⟩) hH0 ?_
          rotate_left
          · (intro wz hSz; (try dsimp only at hSz); go_simp; try with_reducible rfl)
          try simp only [Act.put, List.setIfInBounds_toArray, List.set_cons_zero, List.set_cons_succ]
          refine wpAnyH_ready (rs := [6]) (by kernel_rfl) (by simp) ?_
          refine AllReadyH.cons (o := { dst := some 94, op := Go.Op.call { callee := Go.Callee.value (Go.Operand.func 46), args := #[Go.Operand.tmp 93], argTypes := #[9] }, type := 4, pos := "ref.go:41", after := #[{ on := 5, ground := Go.Ground.data }], guard := none }) rfl (fun K hK => ?_) AllReadyH.nil
          go_simp
          with_reducible refine (HNM.out _).mono ?_
          rintro r w2 ⟨rfl, rfl⟩
          go_wp2_with fail
          refine hK.out _ _ hH0 (fun hH1 => ?_)
          clear hK K hH0
          try simp only [Act.put, List.setIfInBounds_toArray, List.set_cons_zero, List.set_cons_succ]
          refine wpAnyH_take (i := 7) (oi := { dst := some 95, op := Go.Op.unOp Go.UnOp.not 4 (Go.Operand.tmp 94), type := 4, pos := "ref.go:41", after := #[{ on := 6, ground := Go.Ground.data }], guard := none }) (v := ?_) rfl (by kernel_rfl) (by kernel_rfl) (by kernel_rfl) (fun _ _ _ h => h) (Or.inl ⟨by rfl, ?_⟩) hH1 ?_
          rotate_left
          · (intro wz hSz; (try dsimp only at hSz); go_simp; try with_reducible rfl)
          try simp only [Act.put, List.setIfInBounds_toArray, List.set_cons_zero, List.set_cons_succ]
          refine wpAnyH_take (i := 8) (oi := { dst := some 96, op := Go.Op.move (Go.Operand.tmp 95), type := 4, pos := "ref.go:41", after := #[{ on := 7, ground := Go.Ground.data }, { on := 6, ground := Go.Ground.chain }], guard := none }) (v := ?_) rfl (by kernel_rfl) (by kernel_rfl) (by kernel_rfl) (fun _ _ _ h => h) (Or.inl ⟨by rfl, ?_⟩) hH1 ?_
          rotate_left
          · (intro wz hSz; (try dsimp only at hSz); go_simp; try with_reducible rfl)
          try simp only [Act.put, List.setIfInBounds_toArray, List.set_cons_zero, List.set_cons_succ]
          refine wpAnyH_take (i := 9) (oi := { dst := some 97, op := Go.Op.load 26 (Go.Operand.tmp 1), type := 26, pos := "ref.go:41", after := #[{ on := 8, ground := Go.Ground.guard }], guard := some (8, false) }) (v := ?_) rfl (by kernel_rfl) (by kernel_rfl) (by kernel_rfl) (fun _ _ _ h => h) (Or.inl ⟨by rfl, ?_⟩) hH1 ?_
          rotate_left
          · (intro wz hSz; (try dsimp only at hSz); go_simp; try with_reducible rfl)
          try simp only [Act.put, List.setIfInBounds_toArray, List.set_cons_zero, List.set_cons_succ]
          refine wpAnyH_take (i := 10) (oi := { dst := some 98, op := Go.Op.fieldAddr 26 (Go.Operand.tmp 1) 7, type := 0, pos := "ref.go:41", after := #[{ on := 8, ground := Go.Ground.guard }], guard := some (8, false) }) (v := ?_) rfl (by kernel_rfl) (by kernel_rfl) (by kernel_rfl) (fun _ _ _ h => h) (Or.inl ⟨by rfl, ?_⟩) hH1 ?_
          rotate_left
          · (intro wz hSz; (try dsimp only at hSz); go_simp; try with_reducible rfl)
          try simp only [Act.put, List.setIfInBounds_toArray, List.set_cons_zero, List.set_cons_succ]
          refine wpAnyH_take (i := 11) (oi := { dst := some 99, op := Go.Op.load 23 (Go.Operand.tmp 98), type := 23, pos := "ref.go:41", after := #[{ on := 10, ground := Go.Ground.data }, { on := 8, ground := Go.Ground.guard }], guard := some (8, false) }) (v := ?_) rfl (by kernel_rfl) (by kernel_rfl) (by kernel_rfl) (fun _ _ _ h => h) (Or.inl ⟨by rfl, ?_⟩) hH1 ?_
          rotate_left
          · (intro wz hSz; (try dsimp only at hSz); go_simp; try with_reducible rfl)
          try simp only [Act.put, List.setIfInBounds_toArray, List.set_cons_zero, List.set_cons_succ]
          refine wpAnyH_take (i := 12) (oi := { dst := some 100, op := Go.Op.move (Go.Operand.tmp 3), type := 3, pos := "ref.go:41", after := #[{ on := 8, ground := Go.Ground.guard }], guard := some (8, false) }) (v := ?_) rfl (by kernel_rfl) (by kernel_rfl) (by kernel_rfl) (fun _ _ _ h => h) (Or.inl ⟨by rfl, ?_⟩) hH1 ?_
          rotate_left
          · (intro wz hSz; (try dsimp only at hSz); go_simp; try with_reducible rfl)
          try simp only [Act.put, List.setIfInBounds_toArray, List.set_cons_zero, List.set_cons_succ]
          refine wpAnyH_take (i := 13) (oi := { dst := some 101, op := Go.Op.indexAddr 23 (Go.Operand.tmp 99) (Go.Operand.tmp 100), type := 0, pos := "ref.go:41", after := #[{ on := 11, ground := Go.Ground.data }, { on := 12, ground := Go.Ground.data }, { on := 8, ground := Go.Ground.guard }], guard := some (8, false) }) (v := ?_) rfl (by kernel_rfl) (by kernel_rfl) (by kernel_rfl) (fun _ _ _ h => h) (Or.inl ⟨by rfl, ?_⟩) hH1 ?_
          rotate_left
          · (intro wz hSz; (try dsimp only at hSz); go_simp; try with_reducible rfl)
          try simp only [Act.put, List.setIfInBounds_toArray, List.set_cons_zero, List.set_cons_succ]
          refine wpAnyH_take (i := 14) (oi := { dst := some 102, op := Go.Op.fieldAddr 72 (Go.Operand.tmp 101) 1, type := 0, pos := "ref.go:41", after := #[{ on := 13, ground := Go.Ground.data }, { on := 8, ground := Go.Ground.guard }], guard := some (8, false) }) (v := ?_) rfl (by kernel_rfl) (by kernel_rfl) (by kernel_rfl) (fun _ _ _ h => h) (Or.inl ⟨by rfl, ?_⟩) hH1 ?_
          rotate_left
          · (intro wz hSz; (try dsimp only at hSz); go_simp; try with_reducible rfl)
          try simp only [Act.put, List.setIfInBounds_toArray, List.set_cons_zero, List.set_cons_succ]
          refine wpAnyH_take (i := 15) (oi := { dst := some 103, op := Go.Op.load 40 (Go.Operand.tmp 102), type := 40, pos := "ref.go:41", after := #[{ on := 14, ground := Go.Ground.data }, { on := 8, ground := Go.Ground.guard }], guard := some (8, false) }) (v := ?_) rfl (by kernel_rfl) (by kernel_rfl) (by kernel_rfl) (fun _ _ _ h => h) (Or.inl ⟨by rfl, ?_⟩) hH1 ?_
          rotate_left
          · (intro wz hSz; (try dsimp only at hSz); go_simp; try with_reducible rfl)
          try simp only [Act.put, List.setIfInBounds_toArray, List.set_cons_zero, List.set_cons_succ]
          refine wpAnyH_ready (rs := [16]) (by kernel_rfl) (by simp) ?_
          refine AllReadyH.cons (o := { dst := some 104, op := Go.Op.call { callee := Go.Callee.value (Go.Operand.func 30), args := #[Go.Operand.tmp 97, Go.Operand.tmp 103], argTypes := #[26, 40] }, type := 4, pos := "ref.go:41", after := #[{ on := 9, ground := Go.Ground.data }, { on := 15, ground := Go.Ground.data }, { on := 8, ground := Go.Ground.chain }, { on := 8, ground := Go.Ground.guard }], guard := some (8, false) }) rfl (fun K hK => ?_) AllReadyH.nil
          go_simp
          with_reducible refine (HFT.out _).mono ?_
          rintro r w3 ⟨rfl, hbq⟩
          go_wp2_with fail
          refine hK.out _ _ (HSX.out _ (hH1.2.2.2.2.2.2.2.2.2.2.2.2.trans (hbq.mono hH1.2.2.2.2.2.2.2.2.2.2.2.2.size))) (fun hH2 => ?_)
          clear hK K hH1 hbq
          try simp only [Act.put, List.setIfInBounds_toArray, List.set_cons_zero, List.set_cons_succ]
          refine wpAnyH_take (i := 17) (oi := { dst := some 105, op := Go.Op.unOp Go.UnOp.not 4 (Go.Operand.tmp 104), type := 4, pos := "ref.go:41", after := #[{ on := 16, ground := Go.Ground.data }, { on := 8, ground := Go.Ground.guard }], guard := some (8, false) }) (v := ?_) rfl (by kernel_rfl) (by kernel_rfl) (by kernel_rfl) (fun _ _ _ h => h) (Or.inl ⟨by rfl, ?_⟩) hH2 ?_
          rotate_left
          · (intro wz hSz; (try dsimp only at hSz); go_simp; try with_reducible rfl)
          try simp only [Act.put, List.setIfInBounds_toArray, List.set_cons_zero, List.set_cons_succ]
          refine wpAnyH_take (i := 18) (oi := { dst := some 106, op := Go.Op.pick (Go.Operand.tmp 96) (Go.Operand.const (Go.Value.bool true)) (Go.Operand.tmp 105), type := 4, pos := "ref.go:41", after := #[{ on := 8, ground := Go.Ground.data }, { on := 17, ground := Go.Ground.data }], guard := none }) (v := ?_) rfl (by kernel_rfl) (by kernel_rfl) (by kernel_rfl) (fun _ _ _ h => h) (Or.inl ⟨by rfl, ?_⟩) hH2 ?_
          rotate_left
          · (intro wz hSz; (try dsimp only at hSz); go_simp; try with_reducible rfl)
          try simp only [Act.put, List.setIfInBounds_toArray, List.set_cons_zero, List.set_cons_succ]
          refine wpAnyH_done (by kernel_rfl) ?_ _
          have HBX := Lib.hid (HB.out.trans (hH2.2.2.2.2.2.2.2.2.2.2.2.2.mono HB.out.size))
          clear hH2
          go_wp2_with fail
          go_ret
          exact ⟨by rw [HNO.out]; rfl, (HB0.out.trans (HBX.out.mono HB0.out.size))⟩
        | true =>
          rw [hbf] at HFT
          have HGO2 := Lib.hid (HGO.out hbn hbf)
          clear HBN HBF HGO hbn hbf
          go_wp2_with fail
          refine wp_region_held_drew (S := fun wz => wz.cell? ⟨pb, 0, none⟩ = some (.int .i64 n0) ∧ wz.cell? ⟨pb, 1, none⟩ = some (.int .i64 n1) ∧ wz.cell? ⟨pb, 2, none⟩ = some (.int .i64 n2) ∧ wz.cell? ⟨pb, 3, none⟩ = some (.int .i64 n3) ∧ wz.cell? ⟨pb, 4, none⟩ = some (.int .i64 n4) ∧ wz.cell? ⟨pb, 5, none⟩ = some (.int .i64 n5) ∧ wz.cell? ⟨pb, 6, none⟩ = some (.string hid) ∧ wz.cell? ⟨pb, 7, none⟩ = some (.slice (some ⟨bk, off, none⟩) us.length ucap) ∧ wz.cell? ⟨pb, 8, none⟩ = some (.slice fA fs.length fcap) ∧ wz.cell? ⟨bk, off + j * 4, none⟩ = some (.string x) ∧ wz.cell? ⟨bk, off + j * 4 + 1, none⟩ = some (.int .i64 ul) ∧ wz.cell? ⟨bk, off + j * 4 + 2, none⟩ = some (.int .u64 (uc : Int)) ∧ Below wr.heap.size wr wz) (by kernel_rfl) (HSX.out _ (drew_below wr)) (fun hH0 => ?_)
          generalize wr.drew = wA at *
          refine wpAnyH_take (i := 0) (oi := { dst := some 88, op := Go.Op.fieldAddr 26 (Go.Operand.tmp 1) 7, type := 0, pos := "ref.go:41", after := #[], guard := none }) (v := ?_) rfl (by kernel_rfl) (by kernel_rfl) (by kernel_rfl) (fun _ _ _ h => h) (Or.inl ⟨by rfl, ?_⟩) hH0 ?_
          rotate_left
          · (intro wz hSz; (try dsimp only at hSz); go_simp; try with_reducible rfl)
          try simp only [Act.put, List.setIfInBounds_toArray, List.set_cons_zero, List.set_cons_succ]
          refine wpAnyH_take (i := 1) (oi := { dst := some 89, op := Go.Op.load 23 (Go.Operand.tmp 88), type := 23, pos := "ref.go:41", after := #[{ on := 0, ground := Go.Ground.data }], guard := none }) (v := ?_) rfl (by kernel_rfl) (by kernel_rfl) (by kernel_rfl) (fun _ _ _ h => h) (Or.inl ⟨by rfl, ?_⟩) hH0 ?_
          rotate_left
          · (intro wz hSz; (try dsimp only at hSz); go_simp; try with_reducible rfl)
          try simp only [Act.put, List.setIfInBounds_toArray, List.set_cons_zero, List.set_cons_succ]
          refine wpAnyH_take (i := 2) (oi := { dst := some 90, op := Go.Op.move (Go.Operand.tmp 3), type := 3, pos := "ref.go:41", after := #[], guard := none }) (v := ?_) rfl (by kernel_rfl) (by kernel_rfl) (by kernel_rfl) (fun _ _ _ h => h) (Or.inl ⟨by rfl, ?_⟩) hH0 ?_
          rotate_left
          · (intro wz hSz; (try dsimp only at hSz); go_simp; try with_reducible rfl)
          try simp only [Act.put, List.setIfInBounds_toArray, List.set_cons_zero, List.set_cons_succ]
          refine wpAnyH_take (i := 3) (oi := { dst := some 91, op := Go.Op.indexAddr 23 (Go.Operand.tmp 89) (Go.Operand.tmp 90), type := 0, pos := "ref.go:41", after := #[{ on := 1, ground := Go.Ground.data }, { on := 2, ground := Go.Ground.data }], guard := none }) (v := ?_) rfl (by kernel_rfl) (by kernel_rfl) (by kernel_rfl) (fun _ _ _ h => h) (Or.inl ⟨by rfl, ?_⟩) hH0 ?_
          rotate_left
          · (intro wz hSz; (try dsimp only at hSz); go_simp; try with_reducible rfl)
          try simp only [Act.put, List.setIfInBounds_toArray, List.set_cons_zero, List.set_cons_succ]
          refine wpAnyH_take (i := 4) (oi := { dst := some 92, op := Go.Op.fieldAddr 72 (Go.Operand.tmp 91) 0, type := 0, pos := "ref.go:41", after := #[{ on := 3, ground := Go.Ground.data }], guard := none }) (v := ?_) rfl (by kernel_rfl) (by kernel_rfl) (by kernel_rfl) (fun _ _ _ h => h) (Or.inl ⟨by rfl, ?_⟩) hH0 ?_
          rotate_left
          · (intro wz hSz; (try dsimp only at hSz); go_simp; try with_reducible rfl)
          try simp only [Act.put, List.setIfInBounds_toArray, List.set_cons_zero, List.set_cons_succ]
          refine wpAnyH_take (i := 5) (oi := { dst := some 93, op := Go.Op.load 9 (Go.Operand.tmp 92), type := 9, pos := "ref.go:41", after := #[{ on := 4, ground := Go.Ground.data }], guard := none }) (v := ?_) rfl (by kernel_rfl) (by kernel_rfl) (by kernel_rfl) (fun _ _ _ h => h) (Or.inl ⟨by rfl, ?_⟩) hH0 ?_
          rotate_left
          · (intro wz hSz; (try dsimp only at hSz); go_simp; try with_reducible rfl)
          try simp only [Act.put, List.setIfInBounds_toArray, List.set_cons_zero, List.set_cons_succ]
          refine wpAnyH_ready (rs := [6]) (by kernel_rfl) (by simp) ?_
          refine AllReadyH.cons (o := { dst := some 94, op := Go.Op.call { callee := Go.Callee.value (Go.Operand.func 46), args := #[Go.Operand.tmp 93], argTypes := #[9] }, type := 4, pos := "ref.go:41", after := #[{ on := 5, ground := Go.Ground.data }], guard := none }) rfl (fun K hK => ?_) AllReadyH.nil
          go_simp
          with_reducible refine (HNM.out _).mono ?_
          rintro r w2 ⟨rfl, rfl⟩
          go_wp2_with fail
          refine hK.out _ _ hH0 (fun hH1 => ?_)
          clear hK K hH0
          try simp only [Act.put, List.setIfInBounds_toArray, List.set_cons_zero, List.set_cons_succ]
          refine wpAnyH_take (i := 7) (oi := { dst := some 95, op := Go.Op.unOp Go.UnOp.not 4 (Go.Operand.tmp 94), type := 4, pos := "ref.go:41", after := #[{ on := 6, ground := Go.Ground.data }], guard := none }) (v := ?_) rfl (by kernel_rfl) (by kernel_rfl) (by kernel_rfl) (fun _ _ _ h => h) (Or.inl ⟨by rfl, ?_⟩) hH1 ?_
          rotate_left
          · (intro wz hSz; (try dsimp only at hSz); go_simp; try with_reducible rfl)
          try simp only [Act.put, List.setIfInBounds_toArray, List.set_cons_zero, List.set_cons_succ]
          refine wpAnyH_take (i := 8) (oi := { dst := some 96, op := Go.Op.move (Go.Operand.tmp 95), type := 4, pos := "ref.go:41", after := #[{ on := 7, ground := Go.Ground.data }, { on := 6, ground := Go.Ground.chain }], guard := none }) (v := ?_) rfl (by kernel_rfl) (by kernel_rfl) (by kernel_rfl) (fun _ _ _ h => h) (Or.inl ⟨by rfl, ?_⟩) hH1 ?_
          rotate_left
          · (intro wz hSz; (try dsimp only at hSz); go_simp; try with_reducible rfl)
          try simp only [Act.put, List.setIfInBounds_toArray, List.set_cons_zero, List.set_cons_succ]
          refine wpAnyH_take (i := 9) (oi := { dst := some 97, op := Go.Op.load 26 (Go.Operand.tmp 1), type := 26, pos := "ref.go:41", after := #[{ on := 8, ground := Go.Ground.guard }], guard := some (8, false) }) (v := ?_) rfl (by kernel_rfl) (by kernel_rfl) (by kernel_rfl) (fun _ _ _ h => h) (Or.inl ⟨by rfl, ?_⟩) hH1 ?_
          rotate_left
          · (intro wz hSz; (try dsimp only at hSz); go_simp; try with_reducible rfl)
          try simp only [Act.put, List.setIfInBounds_toArray, List.set_cons_zero, List.set_cons_succ]
          refine wpAnyH_take (i := 10) (oi := { dst := some 98, op := Go.Op.fieldAddr 26 (Go.Operand.tmp 1) 7, type := 0, pos := "ref.go:41", after := #[{ on := 8, ground := Go.Ground.guard }], guard := some (8, false) }) (v := ?_) rfl (by kernel_rfl) (by kernel_rfl) (by kernel_rfl) (fun _ _ _ h => h) (Or.inl ⟨by rfl, ?_⟩) hH1 ?_
          rotate_left
          · (intro wz hSz; (try dsimp only at hSz); go_simp; try with_reducible rfl)
          try simp only [Act.put, List.setIfInBounds_toArray, List.set_cons_zero, List.set_cons_succ]
          refine wpAnyH_take (i := 11) (oi := { dst := some 99, op := Go.Op.load 23 (Go.Operand.tmp 98), type := 23, pos := "ref.go:41", after := #[{ on := 10, ground := Go.Ground.data }, { on := 8, ground := Go.Ground.guard }], guard := some (8, false) }) (v := ?_) rfl (by kernel_rfl) (by kernel_rfl) (by kernel_rfl) (fun _ _ _ h => h) (Or.inl ⟨by rfl, ?_⟩) hH1 ?_
          rotate_left
          · (intro wz hSz; (try dsimp only at hSz); go_simp; try with_reducible rfl)
          try simp only [Act.put, List.setIfInBounds_toArray, List.set_cons_zero, List.set_cons_succ]
          refine wpAnyH_take (i := 12) (oi := { dst := some 100, op := Go.Op.move (Go.Operand.tmp 3), type := 3, pos := "ref.go:41", after := #[{ on := 8, ground := Go.Ground.guard }], guard := some (8, false) }) (v := ?_) rfl (by kernel_rfl) (by kernel_rfl) (by kernel_rfl) (fun _ _ _ h => h) (Or.inl ⟨by rfl, ?_⟩) hH1 ?_
          rotate_left
          · (intro wz hSz; (try dsimp only at hSz); go_simp; try with_reducible rfl)
          try simp only [Act.put, List.setIfInBounds_toArray, List.set_cons_zero, List.set_cons_succ]
          refine wpAnyH_take (i := 13) (oi := { dst := some 101, op := Go.Op.indexAddr 23 (Go.Operand.tmp 99) (Go.Operand.tmp 100), type := 0, pos := "ref.go:41", after := #[{ on := 11, ground := Go.Ground.data }, { on := 12, ground := Go.Ground.data }, { on := 8, ground := Go.Ground.guard }], guard := some (8, false) }) (v := ?_) rfl (by kernel_rfl) (by kernel_rfl) (by kernel_rfl) (fun _ _ _ h => h) (Or.inl ⟨by rfl, ?_⟩) hH1 ?_
          rotate_left
          · (intro wz hSz; (try dsimp only at hSz); go_simp; try with_reducible rfl)
          try simp only [Act.put, List.setIfInBounds_toArray, List.set_cons_zero, List.set_cons_succ]
          refine wpAnyH_take (i := 14) (oi := { dst := some 102, op := Go.Op.fieldAddr 72 (Go.Operand.tmp 101) 1, type := 0, pos := "ref.go:41", after := #[{ on := 13, ground := Go.Ground.data }, { on := 8, ground := Go.Ground.guard }], guard := some (8, false) }) (v := ?_) rfl (by kernel_rfl) (by kernel_rfl) (by kernel_rfl) (fun _ _ _ h => h) (Or.inl ⟨by rfl, ?_⟩) hH1 ?_
          rotate_left
          · (intro wz hSz; (try dsimp only at hSz); go_simp; try with_reducible rfl)
          try simp only [Act.put, List.setIfInBounds_toArray, List.set_cons_zero, List.set_cons_succ]
          refine wpAnyH_take (i := 15) (oi := { dst := some 103, op := Go.Op.load 40 (Go.Operand.tmp 102), type := 40, pos := "ref.go:41", after := #[{ on := 14, ground := Go.Ground.data }, { on := 8, ground := Go.Ground.guard }], guard := some (8, false) }) (v := ?_) rfl (by kernel_rfl) (by kernel_rfl) (by kernel_rfl) (fun _ _ _ h => h) (Or.inl ⟨by rfl, ?_⟩) hH1 ?_
          rotate_left
          · (intro wz hSz; (try dsimp only at hSz); go_simp; try with_reducible rfl)
          try simp only [Act.put, List.setIfInBounds_toArray, List.set_cons_zero, List.set_cons_succ]
          refine wpAnyH_ready (rs := [16]) (by kernel_rfl) (by simp) ?_
          refine AllReadyH.cons (o := { dst := some 104, op := Go.Op.call { callee := Go.Callee.value (Go.Operand.func 30), args := #[Go.Operand.tmp 97, Go.Operand.tmp 103], argTypes := #[26, 40] }, type := 4, pos := "ref.go:41", after := #[{ on := 9, ground := Go.Ground.data }, { on := 15, ground := Go.Ground.data }, { on := 8, ground := Go.Ground.chain }, { on := 8, ground := Go.Ground.guard }], guard := some (8, false) }) rfl (fun K hK => ?_) AllReadyH.nil
          go_simp
          with_reducible refine (HFT.out _).mono ?_
          rintro r w3 ⟨rfl, hbq⟩
          go_wp2_with fail
          refine hK.out _ _ (HSX.out _ (hH1.2.2.2.2.2.2.2.2.2.2.2.2.trans (hbq.mono hH1.2.2.2.2.2.2.2.2.2.2.2.2.size))) (fun hH2 => ?_)
          clear hK K hH1 hbq
          try simp only [Act.put, List.setIfInBounds_toArray, List.set_cons_zero, List.set_cons_succ]
          refine wpAnyH_take (i := 17) (oi := { dst := some 105, op := Go.Op.unOp Go.UnOp.not 4 (Go.Operand.tmp 104), type := 4, pos := "ref.go:41", after := #[{ on := 16, ground := Go.Ground.data }, { on := 8, ground := Go.Ground.guard }], guard := some (8, false) }) (v := ?_) rfl (by kernel_rfl) (by kernel_rfl) (by kernel_rfl) (fun _ _ _ h => h) (Or.inl ⟨by rfl, ?_⟩) hH2 ?_
          rotate_left
          · (intro wz hSz; (try dsimp only at hSz); go_simp; try with_reducible rfl)
          try simp only [Act.put, List.setIfInBounds_toArray, List.set_cons_zero, List.set_cons_succ]
          refine wpAnyH_take (i := 18) (oi := { dst := some 106, op := Go.Op.pick (Go.Operand.tmp 96) (Go.Operand.const (Go.Value.bool true)) (Go.Operand.tmp 105), type := 4, pos := "ref.go:41", after := #[{ on := 8, ground := Go.Ground.data }, { on := 17, ground := Go.Ground.data }], guard := none }) (v := ?_) rfl (by kernel_rfl) (by kernel_rfl) (by kernel_rfl) (fun _ _ _ h => h) (Or.inl ⟨by rfl, ?_⟩) hH2 ?_
          rotate_left
          · (intro wz hSz; (try dsimp only at hSz); go_simp; try with_reducible rfl)
          try simp only [Act.put, List.setIfInBounds_toArray, List.set_cons_zero, List.set_cons_succ]
          refine wpAnyH_done (by kernel_rfl) ?_ _
          have HBX := Lib.hid (HB.out.trans (hH2.2.2.2.2.2.2.2.2.2.2.2.2.mono HB.out.size))
          clear hH2
          clear HSX HNM HFT HP HB
          go_wp2_with fail
          go_loopg [4] (j + 1) (fun m' i wx => ∃ k : Nat, k ≤ j ∧ i = .int .i64 k ∧ j + 1 - k ≤ m' ∧ Hid (Below W0.heap.size W0 wx) ∧ Hid (∀ i (hi : i < us.length), i < k → us[i].name ≠ u.name))
          case atStart => exact ⟨0, Nat.zero_le _, rfl, by omega, HBX, Lib.hid (fun i _ h => absurd h (Nat.not_lt_zero _))⟩
          case round =>
            clear HBX
            obtain ⟨k, hk, rfl, hmm, HBK, HNE⟩ := hrel
            by_cases hkj : k < j
            · have hkl2 : k < us.length := by omega
              have HPK := Lib.hid ((HBK.out.block pb (L.blk_lt HP0.out)).trans HP0.out)
              have p7 : wr.cell? ⟨pb, 7, none⟩ = some (.slice (some ⟨bk, off, none⟩) us.length ucap) := L.blk_cell HPK.out 7
              have hbk2 : bk < W0.heap.size := HBKL.out
              have d0 := (HBK.out.cell (p := ⟨bk, off + k * 4, none⟩) hbk2).trans (HIN0.out k hkl2)
              have d1 := (HBK.out.cell (p := ⟨bk, off + j * 4, none⟩) hbk2).trans (HIN0.out j hlt)
              rw [← hu'.out, ← HXU.out] at d1
              have hq := str_bytes us[k].name x
              rw [show x.data.toList = u.name by rw [HXU.out, list_data]] at hq
              have h0k : (0 : Int) ≤ (k : Int) := by omega
              have hki : (k : Int) < (us.length : Int) := by omega
              by_cases heq : us[k].name = u.name
              · rw [decide_eq_true heq] at hq
                generalize (⟨us[k].name.toArray⟩ : ByteArray) = xk at *
                have HNO := Lib.hid (show ok = false by rw [HOK.out, HDP.out k hkj heq]; rfl)
                clear HDP HNE heq HGO2
                go_wp2_with fail
                go_quiet (fail)
                clear d0 d1 hq
                go_wp2_with fail
                go_ret
                exact ⟨by rw [HNO.out]; rfl, below_drewN (HB0.out.trans (HBK.out.mono HB0.out.size)) _⟩
              · rw [decide_eq_false heq] at hq
                generalize (⟨us[k].name.toArray⟩ : ByteArray) = xk at *
                have HNE2 : Hid (∀ i (hi : i < us.length), i < k + 1 → us[i].name ≠ u.name) := Lib.hid (fun i hi h => by
                  rcases Nat.lt_or_ge i k with h1 | h1
                  · exact HNE.out i hi h1
                  · have e : i = k := by omega
                    subst e
                    exact heq)
                clear HNE heq
                go_wp2_with fail
                go_quiet (fail)
                clear d0 d1 hq
                go_wp2_with fail
                go_roundg (j + 1 - (k + 1))
                case rel => exact ⟨k + 1, by omega, by go_num, Nat.le_refl _, Lib.hid (below_drewN HBK.out _), HNE2⟩
                case measure => omega
            · have hke : k = j := by omega
              subst hke
              have HS2 := Lib.hid (HGO2.out (fun i hi h => HNE.out i hi h))
              clear HGO2 HNE HDP
              go_wp2_with fail
              go_roundg (us.length - (k + 1))
              case rel => exact ⟨k + 1, by omega, by go_num, Nat.le_refl _, HBK, HS2⟩
              case measure => omega
    · have hje : j = us.length := by omega
      subst hje
      have HUOK := Lib.hid (show seenOk n0 n1 [] (us.map fun u => (u.name, u.lv, u.ct)) = true by
        have := HS.out
        rw [List.take_of_length_le (by rw [List.length_map]; exact Nat.le_refl _)] at this
        exact this)
      have HOK2 := Lib.hid (show ok = seenOk n0 n1 [] (fs.map fun u => (u.pre, u.lv, u.ct)) by rw [HOK.out, HUOK.out, Bool.true_and])
      have p7 : wr.cell? ⟨pb, 7, none⟩ = some (.slice uA us.length ucap) := L.blk_cell HP.out 7
      have p8 : wr.cell? ⟨pb, 8, none⟩ = some (.slice fA fs.length fcap) := L.blk_cell HP.out 8
      have HBQ := HB
      clear HB HS HUOK HOK hj hm hlt HP
      go_wp2_with fail
      go_loopg [5] fs.length (fun m i wx => ∃ j : Nat, j ≤ fs.length ∧ i = .int .i64 j ∧ fs.length - j ≤ m ∧ Hid (Below W0.heap.size W0 wx) ∧ Hid (seenOk n0 n1 [] ((fs.map fun u => (u.pre, u.lv, u.ct)).take j) = true))
      case atStart => exact ⟨0, Nat.zero_le _, rfl, by omega, HBQ, Lib.hid rfl⟩
      case round =>
        clear HBQ p7 p8
        obtain ⟨j, hj, rfl, hm, HB, HS⟩ := hrel
        have HP := Lib.hid ((HB.out.block pb (L.blk_lt HP0.out)).trans HP0.out)
        by_cases hlt : j < fs.length
        · obtain ⟨bk, off, hAe, hbk, hB⟩ := (HF0.out.below HB.out) (by omega)
          subst hAe
          obtain ⟨c0, c1, c2⟩ := hB j hlt
          have hct := HFC.out _ (List.getElem_mem hlt)
          have hkl : j < (fs.map fun u => (u.pre, u.lv, u.ct)).length := by rw [List.length_map]; exact hlt
          have HBN := Lib.hid (fun (h : P.name fs[j].pre = false) => seen_badname (L := n0) (C := n1) hkl (by rw [List.getElem_map]; exact h))
          have HBF := Lib.hid (fun (h : fitsB n0 n1 fs[j].lv fs[j].ct = false) => seen_badfit (L := n0) (C := n1) hkl (by rw [List.getElem_map]; exact h))
          have HDP := Lib.hid (fun (k : Nat) (hk : k < j) (h : (fs[k]'(by omega)).pre = fs[j].pre) => seen_dup (L := n0) (C := n1) hkl hk (by rw [List.getElem_map, List.getElem_map]; exact h))
          have HGO := Lib.hid (fun (h1 : P.name fs[j].pre = true) (h2 : fitsB n0 n1 fs[j].lv fs[j].ct = true) (h3 : ∀ k (hk : k < fs.length), k < j → fs[k].pre ≠ fs[j].pre) => seen_on (L := n0) (C := n1) hkl HS.out (by rw [List.getElem_map]; exact h1) (by rw [List.getElem_map]; exact h2) (fun k hk => by rw [List.getElem_map, List.getElem_map]; exact h3 k (by omega) hk))
          have HBKL := Lib.hid (show bk < W0.heap.size from (HF0.out.at0 (by omega)))
          have HIN0 := Lib.hid (HF0.out.nm (by omega))
          obtain ⟨u, hu⟩ : ∃ u, u = fs[j] := ⟨_, rfl⟩
          rw [← hu] at c0 c1 c2 hct HBN HBF HDP HGO
          have hnm := fun (W : World) => refName_any ⟨u.pre.toArray⟩ W (by rw [list_size]; exact hct.2)
          simp only [list_data] at hnm
          have hft := fun (W : World) => refFits_any n0 n1 n2 n3 n4 n5 hid uA (some ⟨bk, off, none⟩) us.length fs.length ucap fcap u.lv u.ct W hct.1
          obtain ⟨x, hx⟩ : ∃ x : ByteArray, x = ⟨u.pre.toArray⟩ := ⟨_, rfl⟩
          rw [← hx] at c0
          simp only [← hx] at hnm
          have HNM := Lib.hid hnm
          have HFT := Lib.hid hft
          have HXU := Lib.hid hx
          have hu' := Lib.hid hu
          obtain ⟨ul, hul'⟩ : ∃ l, l = u.lv := ⟨_, rfl⟩
          obtain ⟨uc, huc'⟩ : ∃ c, c = u.ct := ⟨_, rfl⟩
          rw [← hul'] at c1 HBF HGO HFT
          rw [← huc'] at c2 HBF HGO HFT
          clear hnm hft hx hu hul' huc' hB hct hkl
          have h0j : (0 : Int) ≤ (j : Int) := by omega
          have hji : (j : Int) < (fs.length : Int) := by omega
          obtain ⟨a0, a1, a2, a3, a4, a5, a6, a7, a8⟩ := pol_cells HP.out
          have hpl : pb < wr.heap.size := L.blk_lt HP.out
          have HSX : Hid (∀ wz, Below wr.heap.size wr wz → wz.cell? ⟨pb, 0, none⟩ = some (.int .i64 n0) ∧ wz.cell? ⟨pb, 1, none⟩ = some (.int .i64 n1) ∧ wz.cell? ⟨pb, 2, none⟩ = some (.int .i64 n2) ∧ wz.cell? ⟨pb, 3, none⟩ = some (.int .i64 n3) ∧ wz.cell? ⟨pb, 4, none⟩ = some (.int .i64 n4) ∧ wz.cell? ⟨pb, 5, none⟩ = some (.int .i64 n5) ∧ wz.cell? ⟨pb, 6, none⟩ = some (.string hid) ∧ wz.cell? ⟨pb, 7, none⟩ = some (.slice uA us.length ucap) ∧ wz.cell? ⟨pb, 8, none⟩ = some (.slice (some ⟨bk, off, none⟩) fs.length fcap) ∧ wz.cell? ⟨bk, off + j * 3, none⟩ = some (.string x) ∧ wz.cell? ⟨bk, off + j * 3 + 1, none⟩ = some (.int .i64 ul) ∧ wz.cell? ⟨bk, off + j * 3 + 2, none⟩ = some (.int .u64 (uc : Int)) ∧ Below wr.heap.size wr wz) := Lib.hid (fun wz h => ⟨cell_later h a0, cell_later h a1, cell_later h a2, cell_later h a3, cell_later h a4, cell_later h a5, cell_later h a6, cell_later h a7, cell_later h a8, cell_later h c0, cell_later h c1, cell_later h c2, h⟩)
          clear c0 c1 c2  a0 a1 a2 a3 a4 a5 a6 a7
          cases hbn : P.name u.pre with
          | false =>
            rw [hbn] at HNM
            have HNO := Lib.hid (show ok = false by rw [HOK2.out, HBN.out hbn])
            clear HBN HBF HDP HGO hbn HFT
            go_wp2_with fail
            refine wp_region_held_drew (S := fun wz => wz.cell? ⟨pb, 0, none⟩ = some (.int .i64 n0) ∧ wz.cell? ⟨pb, 1, none⟩ = some (.int .i64 n1) ∧ wz.cell? ⟨pb, 2, none⟩ = some (.int .i64 n2) ∧ wz.cell? ⟨pb, 3, none⟩ = some (.int .i64 n3) ∧ wz.cell? ⟨pb, 4, none⟩ = some (.int .i64 n4) ∧ wz.cell? ⟨pb, 5, none⟩ = some (.int .i64 n5) ∧ wz.cell? ⟨pb, 6, none⟩ = some (.string hid) ∧ wz.cell? ⟨pb, 7, none⟩ = some (.slice uA us.length ucap) ∧ wz.cell? ⟨pb, 8, none⟩ = some (.slice (some ⟨bk, off, none⟩) fs.length fcap) ∧ wz.cell? ⟨bk, off + j * 3, none⟩ = some (.string x) ∧ wz.cell? ⟨bk, off + j * 3 + 1, none⟩ = some (.int .i64 ul) ∧ wz.cell? ⟨bk, off + j * 3 + 2, none⟩ = some (.int .u64 (uc : Int)) ∧ Below wr.heap.size wr wz) (by kernel_rfl) (HSX.out _ (drew_below wr)) (fun hH0 => ?_)
            generalize wr.drew = wA at *
            refine wpAnyH_take (i := 0) (oi := { dst := some 132, op := Go.Op.fieldAddr 26 (Go.Operand.tmp 1) 8, type := 0, pos := "ref.go:51", after := #[], guard := none }) (v := ?_) rfl (by kernel_rfl) (by kernel_rfl) (by kernel_rfl) (fun _ _ _ h => h) (Or.inl ⟨by rfl, ?_⟩) hH0 ?_
            rotate_left
            · (intro wz hSz; (try dsimp only at hSz); go_simp; try with_reducible rfl)
            try simp only [Act.put, List.setIfInBounds_toArray, List.set_cons_zero, List.set_cons_succ]
            refine wpAnyH_take (i := 1) (oi := { dst := some 133, op := Go.Op.load 24 (Go.Operand.tmp 132), type := 24, pos := "ref.go:51", after := #[{ on := 0, ground := Go.Ground.data }], guard := none }) (v := ?_) rfl (by kernel_rfl) (by kernel_rfl) (by kernel_rfl) (fun _ _ _ h => h) (Or.inl ⟨by rfl, ?_⟩) hH0 ?_
            rotate_left
            · (intro wz hSz; (try dsimp only at hSz); go_simp; try with_reducible rfl)
            try simp only [Act.put, List.setIfInBounds_toArray, List.set_cons_zero, List.set_cons_succ]
            refine wpAnyH_take (i := 2) (oi := { dst := some 134, op := Go.Op.move (Go.Operand.tmp 5), type := 3, pos := "ref.go:51", after := #[], guard := none }) (v := ?_) rfl (by kernel_rfl) (by kernel_rfl) (by kernel_rfl) (fun _ _ _ h => h) (Or.inl ⟨by rfl, ?_⟩) hH0 ?_
            rotate_left
            · (intro wz hSz; (try dsimp only at hSz); go_simp; try with_reducible rfl)
            try simp only [Act.put, List.setIfInBounds_toArray, List.set_cons_zero, List.set_cons_succ]
            refine wpAnyH_take (i := 3) (oi := { dst := some 135, op := Go.Op.indexAddr 24 (Go.Operand.tmp 133) (Go.Operand.tmp 134), type := 0, pos := "ref.go:51", after := #[{ on := 1, ground := Go.Ground.data }, { on := 2, ground := Go.Ground.data }], guard := none }) (v := ?_) rfl (by kernel_rfl) (by kernel_rfl) (by kernel_rfl) (fun _ _ _ h => h) (Or.inl ⟨by rfl, ?_⟩) hH0 ?_
            rotate_left
            · (intro wz hSz; (try dsimp only at hSz); go_simp; try with_reducible rfl)
            try simp only [Act.put, List.setIfInBounds_toArray, List.set_cons_zero, List.set_cons_succ]
            refine wpAnyH_take (i := 4) (oi := { dst := some 136, op := Go.Op.fieldAddr 76 (Go.Operand.tmp 135) 0, type := 0, pos := "ref.go:51", after := #[{ on := 3, ground := Go.Ground.data }], guard := none }) (v := ?_) rfl (by kernel_rfl) (by kernel_rfl) (by kernel_rfl) (fun _ _ _ h => h) (Or.inl ⟨by rfl, ?_⟩) hH0 ?_
            rotate_left
            · (intro wz hSz; (try dsimp only at hSz); go_simp; try with_reducible rfl)
            try simp only [Act.put, List.setIfInBounds_toArray, List.set_cons_zero, List.set_cons_succ]
            refine wpAnyH_take (i := 5) (oi := { dst := some 137, op := Go.Op.load 9 (Go.Operand.tmp 136), type := 9, pos := "ref.go:51", after := #[{ on := 4, ground := Go.Ground.data }], guard := none }) (v := ?_) rfl (by kernel_rfl) (by kernel_rfl) (by kernel_rfl) (fun _ _ _ h => h) (Or.inl ⟨by rfl, ?_⟩) hH0 ?_
            rotate_left
            · (intro wz hSz; (try dsimp only at hSz); go_simp; try with_reducible rfl)
            try simp only [Act.put, List.setIfInBounds_toArray, List.set_cons_zero, List.set_cons_succ]
            refine wpAnyH_ready (rs := [6]) (by kernel_rfl) (by simp) ?_
            refine AllReadyH.cons (o := { dst := some 138, op := Go.Op.call { callee := Go.Callee.value (Go.Operand.func 46), args := #[Go.Operand.tmp 137], argTypes := #[9] }, type := 4, pos := "ref.go:51", after := #[{ on := 5, ground := Go.Ground.data }], guard := none }) rfl (fun K hK => ?_) AllReadyH.nil
            go_simp
            with_reducible refine (HNM.out _).mono ?_
            rintro r w2 ⟨rfl, rfl⟩
            go_wp2_with fail
            refine hK.out _ _ hH0 (fun hH1 => ?_)
            clear hK K hH0
            try simp only [Act.put, List.setIfInBounds_toArray, List.set_cons_zero, List.set_cons_succ]
            refine wpAnyH_take (i := 7) (oi := { dst := some 139, op := Go.Op.unOp Go.UnOp.not 4 (Go.Operand.tmp 138), type := 4, pos := "ref.go:51", after := #[{ on := 6, ground := Go.Ground.data }], guard := none }) (v := ?_) rfl (by kernel_rfl) (by kernel_rfl) (by kernel_rfl) (fun _ _ _ h => h) (Or.inl ⟨by rfl, ?_⟩) hH1 ?_
            rotate_left
            · (intro wz hSz; (try dsimp only at hSz); go_simp; try with_reducible rfl)
            try simp only [Act.put, List.setIfInBounds_toArray, List.set_cons_zero, List.set_cons_succ]
            refine wpAnyH_take (i := 8) (oi := { dst := some 140, op := Go.Op.move (Go.Operand.tmp 139), type := 4, pos := "ref.go:51", after := #[{ on := 7, ground := Go.Ground.data }, { on := 6, ground := Go.Ground.chain }], guard := none }) (v := ?_) rfl (by kernel_rfl) (by kernel_rfl) (by kernel_rfl) (fun _ _ _ h => h) (Or.inl ⟨by rfl, ?_⟩) hH1 ?_
            rotate_left
            · (intro wz hSz; (try dsimp only at hSz); go_simp; try with_reducible rfl)
            try simp only [Act.put, List.setIfInBounds_toArray, List.set_cons_zero, List.set_cons_succ]
            refine wpAnyH_take (i := 9) (oi := { dst := some 141, op := Go.Op.load 26 (Go.Operand.tmp 1), type := 26, pos := "ref.go:51", after := #[{ on := 8, ground := Go.Ground.guard }], guard := some (8, false) }) (v := undef) rfl (by kernel_rfl) (by kernel_rfl) (by kernel_rfl) (fun _ _ _ h => h) (Or.inr ⟨by rfl, rfl⟩) hH1 ?_
            try simp only [Act.put, List.setIfInBounds_toArray, List.set_cons_zero, List.set_cons_succ]
            refine wpAnyH_take (i := 10) (oi := { dst := some 142, op := Go.Op.fieldAddr 26 (Go.Operand.tmp 1) 8, type := 0, pos := "ref.go:51", after := #[{ on := 8, ground := Go.Ground.guard }], guard := some (8, false) }) (v := undef) rfl (by kernel_rfl) (by kernel_rfl) (by kernel_rfl) (fun _ _ _ h => h) (Or.inr ⟨by rfl, rfl⟩) hH1 ?_
            try simp only [Act.put, List.setIfInBounds_toArray, List.set_cons_zero, List.set_cons_succ]
            refine wpAnyH_take (i := 11) (oi := { dst := some 143, op := Go.Op.load 24 (Go.Operand.tmp 142), type := 24, pos := "ref.go:51", after := #[{ on := 10, ground := Go.Ground.data }, { on := 8, ground := Go.Ground.guard }], guard := some (8, false) }) (v := undef) rfl (by kernel_rfl) (by kernel_rfl) (by kernel_rfl) (fun _ _ _ h => h) (Or.inr ⟨by rfl, rfl⟩) hH1 ?_
            try simp only [Act.put, List.setIfInBounds_toArray, List.set_cons_zero, List.set_cons_succ]
            refine wpAnyH_take (i := 12) (oi := { dst := some 144, op := Go.Op.move (Go.Operand.tmp 5), type := 3, pos := "ref.go:51", after := #[{ on := 8, ground := Go.Ground.guard }], guard := some (8, false) }) (v := undef) rfl (by kernel_rfl) (by kernel_rfl) (by kernel_rfl) (fun _ _ _ h => h) (Or.inr ⟨by rfl, rfl⟩) hH1 ?_
            try simp only [Act.put, List.setIfInBounds_toArray, List.set_cons_zero, List.set_cons_succ]
            refine wpAnyH_take (i := 13) (oi := { dst := some 145, op := Go.Op.indexAddr 24 (Go.Operand.tmp 143) (Go.Operand.tmp 144), type := 0, pos := "ref.go:51", after := #[{ on := 11, ground := Go.Ground.data }, { on := 12, ground := Go.Ground.data }, { on := 8, ground := Go.Ground.guard }], guard := some (8, false) }) (v := undef) rfl (by kernel_rfl) (by kernel_rfl) (by kernel_rfl) (fun _ _ _ h => h) (Or.inr ⟨by rfl, rfl⟩) hH1 ?_
            try simp only [Act.put, List.setIfInBounds_toArray, List.set_cons_zero, List.set_cons_succ]
            refine wpAnyH_take (i := 14) (oi := { dst := some 146, op := Go.Op.fieldAddr 76 (Go.Operand.tmp 145) 1, type := 0, pos := "ref.go:51", after := #[{ on := 13, ground := Go.Ground.data }, { on := 8, ground := Go.Ground.guard }], guard := some (8, false) }) (v := undef) rfl (by kernel_rfl) (by kernel_rfl) (by kernel_rfl) (fun _ _ _ h => h) (Or.inr ⟨by rfl, rfl⟩) hH1 ?_
            try simp only [Act.put, List.setIfInBounds_toArray, List.set_cons_zero, List.set_cons_succ]
            refine wpAnyH_take (i := 15) (oi := { dst := some 147, op := Go.Op.load 40 (Go.Operand.tmp 146), type := 40, pos := "ref.go:51", after := #[{ on := 14, ground := Go.Ground.data }, { on := 8, ground := Go.Ground.guard }], guard := some (8, false) }) (v := undef) rfl (by kernel_rfl) (by kernel_rfl) (by kernel_rfl) (fun _ _ _ h => h) (Or.inr ⟨by rfl, rfl⟩) hH1 ?_
            try simp only [Act.put, List.setIfInBounds_toArray, List.set_cons_zero, List.set_cons_succ]
            refine wpAnyH_take (i := 16) (oi := { dst := some 148, op := Go.Op.call { callee := Go.Callee.value (Go.Operand.func 30), args := #[Go.Operand.tmp 141, Go.Operand.tmp 147], argTypes := #[26, 40] }, type := 4, pos := "ref.go:51", after := #[{ on := 9, ground := Go.Ground.data }, { on := 15, ground := Go.Ground.data }, { on := 8, ground := Go.Ground.chain }, { on := 8, ground := Go.Ground.guard }], guard := some (8, false) }) (v := undef) rfl (by kernel_rfl) (by kernel_rfl) (by kernel_rfl) (fun _ _ _ h => h) (Or.inr ⟨by rfl, rfl⟩) hH1 ?_
            try simp only [Act.put, List.setIfInBounds_toArray, List.set_cons_zero, List.set_cons_succ]
            refine wpAnyH_take (i := 17) (oi := { dst := some 149, op := Go.Op.unOp Go.UnOp.not 4 (Go.Operand.tmp 148), type := 4, pos := "ref.go:51", after := #[{ on := 16, ground := Go.Ground.data }, { on := 8, ground := Go.Ground.guard }], guard := some (8, false) }) (v := undef) rfl (by kernel_rfl) (by kernel_rfl) (by kernel_rfl) (fun _ _ _ h => h) (Or.inr ⟨by rfl, rfl⟩) hH1 ?_
            try simp only [Act.put, List.setIfInBounds_toArray, List.set_cons_zero, List.set_cons_succ]
            refine wpAnyH_take (i := 18) (oi := { dst := some 150, op := Go.Op.pick (Go.Operand.tmp 140) (Go.Operand.const (Go.Value.bool true)) (Go.Operand.tmp 149), type := 4, pos := "ref.go:51", after := #[{ on := 8, ground := Go.Ground.data }, { on := 17, ground := Go.Ground.data }], guard := none }) (v := ?_) rfl (by kernel_rfl) (by kernel_rfl) (by kernel_rfl) (fun _ _ _ h => h) (Or.inl ⟨by rfl, ?_⟩) hH1 ?_
            rotate_left
            · (intro wz hSz; (try dsimp only at hSz); go_simp; try with_reducible rfl)
            try simp only [Act.put, List.setIfInBounds_toArray, List.set_cons_zero, List.set_cons_succ]
            refine wpAnyH_done (by kernel_rfl) ?_ _
            have HBX := Lib.hid (HB.out.trans (hH1.2.2.2.2.2.2.2.2.2.2.2.2.mono HB.out.size))
            clear hH1
            go_wp2_with fail
            go_ret
            exact ⟨by rw [HNO.out]; rfl, (HB0.out.trans (HBX.out.mono HB0.out.size))⟩
          | true =>
            rw [hbn] at HNM
            cases hbf : fitsB n0 n1 ul uc with
            | false =>
              rw [hbf] at HFT
              have HNO := Lib.hid (show ok = false by rw [HOK2.out, HBF.out hbf])
              clear HBN HBF HDP HGO hbn hbf
              go_wp2_with fail
              refine wp_region_held_drew (S := fun wz => wz.cell? ⟨pb, 0, none⟩ = some (.int .i64 n0) ∧ wz.cell? ⟨pb, 1, none⟩ = some (.int .i64 n1) ∧ wz.cell? ⟨pb, 2, none⟩ = some (.int .i64 n2) ∧ wz.cell? ⟨pb, 3, none⟩ = some (.int .i64 n3) ∧ wz.cell? ⟨pb, 4, none⟩ = some (.int .i64 n4) ∧ wz.cell? ⟨pb, 5, none⟩ = some (.int .i64 n5) ∧ wz.cell? ⟨pb, 6, none⟩ = some (.string hid) ∧ wz.cell? ⟨pb, 7, none⟩ = some (.slice uA us.length ucap) ∧ wz.cell? ⟨pb, 8, none⟩ = some (.slice (some ⟨bk, off, none⟩) fs.length fcap) ∧ wz.cell? ⟨bk, off + j * 3, none⟩ = some (.string x) ∧ wz.cell? ⟨bk, off + j * 3 + 1, none⟩ = some (.int .i64 ul) ∧ wz.cell? ⟨bk, off + j * 3 + 2, none⟩ = some (.int .u64 (uc : Int)) ∧ Below wr.heap.size wr wz) (by kernel_rfl) (HSX.out _ (drew_below wr)) (fun hH0 => ?_)
              generalize wr.drew = wA at *
              refine wpAnyH_take (i := 0) (oi := { dst := some 132, op := Go.Op.fieldAddr 26 (Go.Operand.tmp 1) 8, type := 0, pos := "ref.go:51", after := #[], guard := none }) (v := ?_) rfl (by kernel_rfl) (by kernel_rfl) (by kernel_rfl) (fun _ _ _ h => h) (Or.inl ⟨by rfl, ?_⟩) hH0 ?_
              rotate_left
              · (intro wz hSz; (try dsimp only at hSz); go_simp; try with_reducible rfl)
              try simp only [Act.put, List.setIfInBounds_toArray, List.set_cons_zero, List.set_cons_succ]
              refine wpAnyH_take (i := 1) (oi := { dst := some 133, op := Go.Op.load 24 (Go.Operand.tmp 132), type := 24, pos := "ref.go:51", after := #[{ on := 0, ground := Go.Ground.data }], guard := none }) (v := ?_) rfl (by kernel_rfl) (by kernel_rfl) (by kernel_rfl) (fun _ _ _ h => h) (Or.inl ⟨by rfl, ?_⟩) hH0 ?_
              rotate_left
              · (intro wz hSz; (try dsimp only at hSz); go_simp; try with_reducible rfl)
              try simp only [Act.put, List.setIfInBounds_toArray, List.set_cons_zero, List.set_cons_succ]
              refine wpAnyH_take (i := 2) (oi := { dst := some 134, op := Go.Op.move (Go.Operand.tmp 5), type := 3, pos := "ref.go:51", after := #[], guard := none }) (v := ?_) rfl (by kernel_rfl) (by kernel_rfl) (by kernel_rfl) (fun _ _ _ h => h) (Or.inl ⟨by rfl, ?_⟩) hH0 ?_
              rotate_left
              · (intro wz hSz; (try dsimp only at hSz); go_simp; try with_reducible rfl)
              try simp only [Act.put, List.setIfInBounds_toArray, List.set_cons_zero, List.set_cons_succ]
              refine wpAnyH_take (i := 3) (oi := { dst := some 135, op := Go.Op.indexAddr 24 (Go.Operand.tmp 133) (Go.Operand.tmp 134), type := 0, pos := "ref.go:51", after := #[{ on := 1, ground := Go.Ground.data }, { on := 2, ground := Go.Ground.data }], guard := none }) (v := ?_) rfl (by kernel_rfl) (by kernel_rfl) (by kernel_rfl) (fun _ _ _ h => h) (Or.inl ⟨by rfl, ?_⟩) hH0 ?_
              rotate_left
              · (intro wz hSz; (try dsimp only at hSz); go_simp; try with_reducible rfl)
              try simp only [Act.put, List.setIfInBounds_toArray, List.set_cons_zero, List.set_cons_succ]
              refine wpAnyH_take (i := 4) (oi := { dst := some 136, op := Go.Op.fieldAddr 76 (Go.Operand.tmp 135) 0, type := 0, pos := "ref.go:51", after := #[{ on := 3, ground := Go.Ground.data }], guard := none }) (v := ?_) rfl (by kernel_rfl) (by kernel_rfl) (by kernel_rfl) (fun _ _ _ h => h) (Or.inl ⟨by rfl, ?_⟩) hH0 ?_
              rotate_left
              · (intro wz hSz; (try dsimp only at hSz); go_simp; try with_reducible rfl)
              try simp only [Act.put, List.setIfInBounds_toArray, List.set_cons_zero, List.set_cons_succ]
              refine wpAnyH_take (i := 5) (oi := { dst := some 137, op := Go.Op.load 9 (Go.Operand.tmp 136), type := 9, pos := "ref.go:51", after := #[{ on := 4, ground := Go.Ground.data }], guard := none }) (v := ?_) rfl (by kernel_rfl) (by kernel_rfl) (by kernel_rfl) (fun _ _ _ h => h) (Or.inl ⟨by rfl, ?_⟩) hH0 ?_
              rotate_left
              · (intro wz hSz; (try dsimp only at hSz); go_simp; try with_reducible rfl)
              try simp only [Act.put, List.setIfInBounds_toArray, List.set_cons_zero, List.set_cons_succ]
              refine wpAnyH_ready (rs := [6]) (by kernel_rfl) (by simp) ?_
              refine AllReadyH.cons (o := { dst := some 138, op := Go.Op.call { callee := Go.Callee.value (Go.Operand.func 46), args := #[Go.Operand.tmp 137], argTypes := #[9] }, type := 4, pos := "ref.go:51", after := #[{ on := 5, ground := Go.Ground.data }], guard := none }) rfl (fun K hK => ?_) AllReadyH.nil
              go_simp
              with_reducible refine (HNM.out _).mono ?_
              rintro r w2 ⟨rfl, rfl⟩
              go_wp2_with fail
              refine hK.out _ _ hH0 (fun hH1 => ?_)
              clear hK K hH0
              try simp only [Act.put, List.setIfInBounds_toArray, List.set_cons_zero, List.set_cons_succ]
              refine wpAnyH_take (i := 7) (oi := { dst := some 139, op := Go.Op.unOp Go.UnOp.not 4 (Go.Operand.tmp 138), type := 4, pos := "ref.go:51", after := #[{ on := 6, ground := Go.Ground.data }], guard := none }) (v := ?_) rfl (by kernel_rfl) (by kernel_rfl) (by kernel_rfl) (fun _ _ _ h => h) (Or.inl ⟨by rfl, ?_⟩) hH1 ?_
              rotate_left
              · (intro wz hSz; (try dsimp only at hSz); go_simp; try with_reducible rfl)
              try simp only [Act.put, List.setIfInBounds_toArray, List.set_cons_zero, List.set_cons_succ]
              refine wpAnyH_take (i := 8) (oi := { dst := some 140, op := Go.Op.move (Go.Operand.tmp 139), type := 4, pos := "ref.go:51", after := #[{ on := 7, ground := Go.Ground.data }, { on := 6, ground := Go.Ground.chain }], guard := none }) (v := ?_) rfl (by kernel_rfl) (by kernel_rfl) (by kernel_rfl) (fun _ _ _ h => h) (Or.inl ⟨by rfl, ?_⟩) hH1 ?_
              rotate_left
              · (intro wz hSz; (try dsimp only at hSz); go_simp; try with_reducible rfl)
              try simp only [Act.put, List.setIfInBounds_toArray, List.set_cons_zero, List.set_cons_succ]
              refine wpAnyH_take (i := 9) (oi := { dst := some 141, op := Go.Op.load 26 (Go.Operand.tmp 1), type := 26, pos := "ref.go:51", after := #[{ on := 8, ground := Go.Ground.guard }], guard := some (8, false) }) (v := ?_) rfl (by kernel_rfl) (by kernel_rfl) (by kernel_rfl) (fun _ _ _ h => h) (Or.inl ⟨by rfl, ?_⟩) hH1 ?_
              rotate_left
              · (intro wz hSz; (try dsimp only at hSz); go_simp; try with_reducible rfl)
              try simp only [Act.put, List.setIfInBounds_toArray, List.set_cons_zero, List.set_cons_succ]
              refine wpAnyH_take (i := 10) (oi := { dst := some 142, op := Go.Op.fieldAddr 26 (Go.Operand.tmp 1) 8, type := 0, pos := "ref.go:51", after := #[{ on := 8, ground := Go.Ground.guard }], guard := some (8, false) }) (v := ?_) rfl (by kernel_rfl) (by kernel_rfl) (by kernel_rfl) (fun _ _ _ h => h) (Or.inl ⟨by rfl, ?_⟩) hH1 ?_
              rotate_left
              · (intro wz hSz; (try dsimp only at hSz); go_simp; try with_reducible rfl)
              try simp only [Act.put, List.setIfInBounds_toArray, List.set_cons_zero, List.set_cons_succ]
              refine wpAnyH_take (i := 11) (oi := { dst := some 143, op := Go.Op.load 24 (Go.Operand.tmp 142), type := 24, pos := "ref.go:51", after := #[{ on := 10, ground := Go.Ground.data }, { on := 8, ground := Go.Ground.guard }], guard := some (8, false) }) (v := ?_) rfl (by kernel_rfl) (by kernel_rfl) (by kernel_rfl) (fun _ _ _ h => h) (Or.inl ⟨by rfl, ?_⟩) hH1 ?_
              rotate_left
              · (intro wz hSz; (try dsimp only at hSz); go_simp; try with_reducible rfl)
              try simp only [Act.put, List.setIfInBounds_toArray, List.set_cons_zero, List.set_cons_succ]
              refine wpAnyH_take (i := 12) (oi := { dst := some 144, op := Go.Op.move (Go.Operand.tmp 5), type := 3, pos := "ref.go:51", after := #[{ on := 8, ground := Go.Ground.guard }], guard := some (8, false) }) (v := ?_) rfl (by kernel_rfl) (by kernel_rfl) (by kernel_rfl) (fun _ _ _ h => h) (Or.inl ⟨by rfl, ?_⟩) hH1 ?_
              rotate_left
              · (intro wz hSz; (try dsimp only at hSz); go_simp; try with_reducible rfl)
              try simp only [Act.put, List.setIfInBounds_toArray, List.set_cons_zero, List.set_cons_succ]
              refine wpAnyH_take (i := 13) (oi := { dst := some 145, op := Go.Op.indexAddr 24 (Go.Operand.tmp 143) (Go.Operand.tmp 144), type := 0, pos := "ref.go:51", after := #[{ on := 11, ground := Go.Ground.data }, { on := 12, ground := Go.Ground.data }, { on := 8, ground := Go.Ground.guard }], guard := some (8, false) }) (v := ?_) rfl (by kernel_rfl) (by kernel_rfl) (by kernel_rfl) (fun _ _ _ h => h) (Or.inl ⟨by rfl, ?_⟩) hH1 ?_
              rotate_left
              · (intro wz hSz; (try dsimp only at hSz); go_simp; try with_reducible rfl)
              try simp only [Act.put, List.setIfInBounds_toArray, List.set_cons_zero, List.set_cons_succ]
              refine wpAnyH_take (i := 14) (oi := { dst := some 146, op := Go.Op.fieldAddr 76 (Go.Operand.tmp 145) 1, type := 0, pos := "ref.go:51", after := #[{ on := 13, ground := Go.Ground.data }, { on := 8, ground := Go.Ground.guard }], guard := some (8, false) }) (v := ?_) rfl (by kernel_rfl) (by kernel_rfl) (by kernel_rfl) (fun _ _ _ h => h) (Or.inl ⟨by rfl, ?_⟩) hH1 ?_
              rotate_left
              · (intro wz hSz; (try dsimp only at hSz); go_simp; try with_reducible rfl)
              try simp only [Act.put, List.setIfInBounds_toArray, List.set_cons_zero, List.set_cons_succ]
              refine wpAnyH_take (i := 15) (oi := { dst := some 147, op := Go.Op.load 40 (Go.Operand.tmp 146), type := 40, pos := "ref.go:51", after := #[{ on := 14, ground := Go.Ground.data }, { on := 8, ground := Go.Ground.guard }], guard := some (8, false) }) (v := ?_) rfl (by kernel_rfl) (by kernel_rfl) (by kernel_rfl) (fun _ _ _ h => h) (Or.inl ⟨by rfl, ?_⟩) hH1 ?_
              rotate_left
              · (intro wz hSz; (try dsimp only at hSz); go_simp; try with_reducible rfl)
              try simp only [Act.put, List.setIfInBounds_toArray, List.set_cons_zero, List.set_cons_succ]
              refine wpAnyH_ready (rs := [16]) (by kernel_rfl) (by simp) ?_
              refine AllReadyH.cons (o := { dst := some 148, op := Go.Op.call { callee := Go.Callee.value (Go.Operand.func 30), args := #[Go.Operand.tmp 141, Go.Operand.tmp 147], argTypes := #[26, 40] }, type := 4, pos := "ref.go:51", after := #[{ on := 9, ground := Go.Ground.data }, { on := 15, ground := Go.Ground.data }, { on := 8, ground := Go.Ground.chain }, { on := 8, ground := Go.Ground.guard }], guard := some (8, false) }) rfl (fun K hK => ?_) AllReadyH.nil
              go_simp
              with_reducible refine (HFT.out _).mono ?_
              rintro r w3 ⟨rfl, hbq⟩
              go_wp2_with fail
              refine hK.out _ _ (HSX.out _ (hH1.2.2.2.2.2.2.2.2.2.2.2.2.trans (hbq.mono hH1.2.2.2.2.2.2.2.2.2.2.2.2.size))) (fun hH2 => ?_)
              clear hK K hH1 hbq
              try simp only [Act.put, List.setIfInBounds_toArray, List.set_cons_zero, List.set_cons_succ]
              refine wpAnyH_take (i := 17) (oi := { dst := some 149, op := Go.Op.unOp Go.UnOp.not 4 (Go.Operand.tmp 148), type := 4, pos := "ref.go:51", after := #[{ on := 16, ground := Go.Ground.data }, { on := 8, ground := Go.Ground.guard }], guard := some (8, false) }) (v := ?_) rfl (by kernel_rfl) (by kernel_rfl) (by kernel_rfl) (fun _ _ _ h => h) (Or.inl ⟨by rfl, ?_⟩) hH2 ?_
              rotate_left
              · (intro wz hSz; (try dsimp only at hSz); go_simp; try with_reducible rfl)
              try simp only [Act.put, List.setIfInBounds_toArray, List.set_cons_zero, List.set_cons_succ]
              refine wpAnyH_take (i := 18) (oi := { dst := some 150, op := Go.Op.pick (Go.Operand.tmp 140) (Go.Operand.const (Go.Value.bool true)) (Go.Operand.tmp 149), type := 4, pos := "ref.go:51", after := #[{ on := 8, ground := Go.Ground.data }, { on := 17, ground := Go.Ground.data }], guard := none }) (v := ?_) rfl (by kernel_rfl) (by kernel_rfl) (by kernel_rfl) (fun _ _ _ h => h) (Or.inl ⟨by rfl, ?_⟩) hH2 ?_
              rotate_left
              · (intro wz hSz; (try dsimp only at hSz); go_simp; try with_reducible rfl)
              try simp only [Act.put, List.setIfInBounds_toArray, List.set_cons_zero, List.set_cons_succ]
              refine wpAnyH_done (by kernel_rfl) ?_ _
              have HBX := Lib.hid (HB.out.trans (hH2.2.2.2.2.2.2.2.2.2.2.2.2.mono HB.out.size))
              clear hH2
              go_wp2_with fail
              go_ret
              exact ⟨by rw [HNO.out]; rfl, (HB0.out.trans (HBX.out.mono HB0.out.size))⟩
            | true =>
              rw [hbf] at HFT
              have HGO2 := Lib.hid (HGO.out hbn hbf)
              clear HBN HBF HGO hbn hbf
              go_wp2_with fail
              refine wp_region_held_drew (S := fun wz => wz.cell? ⟨pb, 0, none⟩ = some (.int .i64 n0) ∧ wz.cell? ⟨pb, 1, none⟩ = some (.int .i64 n1) ∧ wz.cell? ⟨pb, 2, none⟩ = some (.int .i64 n2) ∧ wz.cell? ⟨pb, 3, none⟩ = some (.int .i64 n3) ∧ wz.cell? ⟨pb, 4, none⟩ = some (.int .i64 n4) ∧ wz.cell? ⟨pb, 5, none⟩ = some (.int .i64 n5) ∧ wz.cell? ⟨pb, 6, none⟩ = some (.string hid) ∧ wz.cell? ⟨pb, 7, none⟩ = some (.slice uA us.length ucap) ∧ wz.cell? ⟨pb, 8, none⟩ = some (.slice (some ⟨bk, off, none⟩) fs.length fcap) ∧ wz.cell? ⟨bk, off + j * 3, none⟩ = some (.string x) ∧ wz.cell? ⟨bk, off + j * 3 + 1, none⟩ = some (.int .i64 ul) ∧ wz.cell? ⟨bk, off + j * 3 + 2, none⟩ = some (.int .u64 (uc : Int)) ∧ Below wr.heap.size wr wz) (by kernel_rfl) (HSX.out _ (drew_below wr)) (fun hH0 => ?_)
              generalize wr.drew = wA at *
              refine wpAnyH_take (i := 0) (oi := { dst := some 132, op := Go.Op.fieldAddr 26 (Go.Operand.tmp 1) 8, type := 0, pos := "ref.go:51", after := #[], guard := none }) (v := ?_) rfl (by kernel_rfl) (by kernel_rfl) (by kernel_rfl) (fun _ _ _ h => h) (Or.inl ⟨by rfl, ?_⟩) hH0 ?_
              rotate_left
              · (intro wz hSz; (try dsimp only at hSz); go_simp; try with_reducible rfl)
              try simp only [Act.put, List.setIfInBounds_toArray, List.set_cons_zero, List.set_cons_succ]
              refine wpAnyH_take (i := 1) (oi := { dst := some 133, op := Go.Op.load 24 (Go.Operand.tmp 132), type := 24, pos := "ref.go:51", after := #[{ on := 0, ground := Go.Ground.data }], guard := none }) (v := ?_) rfl (by kernel_rfl) (by kernel_rfl) (by kernel_rfl) (fun _ _ _ h => h) (Or.inl ⟨by rfl, ?_⟩) hH0 ?_
              rotate_left
              · (intro wz hSz; (try dsimp only at hSz); go_simp; try with_reducible rfl)
              try simp only [Act.put, List.setIfInBounds_toArray, List.set_cons_zero, List.set_cons_succ]
              refine wpAnyH_take (i := 2) (oi := { dst := some 134, op := Go.Op.move (Go.Operand.tmp 5), type := 3, pos := "ref.go:51", after := #[], guard := none }) (v := ?_) rfl (by kernel_rfl) (by kernel_rfl) (by kernel_rfl) (fun _ _ _ h => h) (Or.inl ⟨by rfl, ?_⟩) hH0 ?_
              rotate_left
              · (intro wz hSz; (try dsimp only at hSz); go_simp; try with_reducible rfl)
              try simp only [Act.put, List.setIfInBounds_toArray, List.set_cons_zero, List.set_cons_succ]
              refine wpAnyH_take (i := 3) (oi := { dst := some 135, op := Go.Op.indexAddr 24 (Go.Operand.tmp 133) (Go.Operand.tmp 134), type := 0, pos := "ref.go:51", after := #[{ on := 1, ground := Go.Ground.data }, { on := 2, ground := Go.Ground.data }], guard := none }) (v := ?_) rfl (by kernel_rfl) (by kernel_rfl) (by kernel_rfl) (fun _ _ _ h => h) (Or.inl ⟨by rfl, ?_⟩) hH0 ?_
              rotate_left
              · (intro wz hSz; (try dsimp only at hSz); go_simp; try with_reducible rfl)
              try simp only [Act.put, List.setIfInBounds_toArray, List.set_cons_zero, List.set_cons_succ]
              refine wpAnyH_take (i := 4) (oi := { dst := some 136, op := Go.Op.fieldAddr 76 (Go.Operand.tmp 135) 0, type := 0, pos := "ref.go:51", after := #[{ on := 3, ground := Go.Ground.data }], guard := none }) (v := ?_) rfl (by kernel_rfl) (by kernel_rfl) (by kernel_rfl) (fun _ _ _ h => h) (Or.inl ⟨by rfl, ?_⟩) hH0 ?_
              rotate_left
              · (intro wz hSz; (try dsimp only at hSz); go_simp; try with_reducible rfl)
              try simp only [Act.put, List.setIfInBounds_toArray, List.set_cons_zero, List.set_cons_succ]
              refine wpAnyH_take (i := 5) (oi := { dst := some 137, op := Go.Op.load 9 (Go.Operand.tmp 136), type := 9, pos := "ref.go:51", after := #[{ on := 4, ground := Go.Ground.data }], guard := none }) (v := ?_) rfl (by kernel_rfl) (by kernel_rfl) (by kernel_rfl) (fun _ _ _ h => h) (Or.inl ⟨by rfl, ?_⟩) hH0 ?_
              rotate_left
              · (intro wz hSz; (try dsimp only at hSz); go_simp; try with_reducible rfl)
              try simp only [Act.put, List.setIfInBounds_toArray, List.set_cons_zero, List.set_cons_succ]
              refine wpAnyH_ready (rs := [6]) (by kernel_rfl) (by simp) ?_
              refine AllReadyH.cons (o := { dst := some 138, op := Go.Op.call { callee := Go.Callee.value (Go.Operand.func 46), args := #[Go.Operand.tmp 137], argTypes := #[9] }, type := 4, pos := "ref.go:51", after := #[{ on := 5, ground := Go.Ground.data }], guard := none }) rfl (fun K hK => ?_) AllReadyH.nil
              go_simp
              with_reducible refine (HNM.out _).mono ?_
              rintro r w2 ⟨rfl, rfl⟩
              go_wp2_with fail
              refine hK.out _ _ hH0 (fun hH1 => ?_)
              clear hK K hH0
              try simp only [Act.put, List.setIfInBounds_toArray, List.set_cons_zero, List.set_cons_succ]
              refine wpAnyH_take (i := 7) (oi := { dst := some 139, op := Go.Op.unOp Go.UnOp.not 4 (Go.Operand.tmp 138), type := 4, pos := "ref.go:51", after := #[{ on := 6, ground := Go.Ground.data }], guard := none }) (v := ?_) rfl (by kernel_rfl) (by kernel_rfl) (by kernel_rfl) (fun _ _ _ h => h) (Or.inl ⟨by rfl, ?_⟩) hH1 ?_
              rotate_left
              · (intro wz hSz; (try dsimp only at hSz); go_simp; try with_reducible rfl)
              try simp only [Act.put, List.setIfInBounds_toArray, List.set_cons_zero, List.set_cons_succ]
              refine wpAnyH_take (i := 8) (oi := { dst := some 140, op := Go.Op.move (Go.Operand.tmp 139), type := 4, pos := "ref.go:51", after := #[{ on := 7, ground := Go.Ground.data }, { on := 6, ground := Go.Ground.chain }], guard := none }) (v := ?_) rfl (by kernel_rfl) (by kernel_rfl) (by kernel_rfl) (fun _ _ _ h => h) (Or.inl ⟨by rfl, ?_⟩) hH1 ?_
              rotate_left
              · (intro wz hSz; (try dsimp only at hSz); go_simp; try with_reducible rfl)
              try simp only [Act.put, List.setIfInBounds_toArray, List.set_cons_zero, List.set_cons_succ]
              refine wpAnyH_take (i := 9) (oi := { dst := some 141, op := Go.Op.load 26 (Go.Operand.tmp 1), type := 26, pos := "ref.go:51", after := #[{ on := 8, ground := Go.Ground.guard }], guard := some (8, false) }) (v := ?_) rfl (by kernel_rfl) (by kernel_rfl) (by kernel_rfl) (fun _ _ _ h => h) (Or.inl ⟨by rfl, ?_⟩) hH1 ?_
              rotate_left
              · (intro wz hSz; (try dsimp only at hSz); go_simp; try with_reducible rfl)
              try simp only [Act.put, List.setIfInBounds_toArray, List.set_cons_zero, List.set_cons_succ]
              refine wpAnyH_take (i := 10) (oi := { dst := some 142, op := Go.Op.fieldAddr 26 (Go.Operand.tmp 1) 8, type := 0, pos := "ref.go:51", after := #[{ on := 8, ground := Go.Ground.guard }], guard := some (8, false) }) (v := ?_) rfl (by kernel_rfl) (by kernel_rfl) (by kernel_rfl) (fun _ _ _ h => h) (Or.inl ⟨by rfl, ?_⟩) hH1 ?_
              rotate_left
              · (intro wz hSz; (try dsimp only at hSz); go_simp; try with_reducible rfl)
              try simp only [Act.put, List.setIfInBounds_toArray, List.set_cons_zero, List.set_cons_succ]
              refine wpAnyH_take (i := 11) (oi := { dst := some 143, op := Go.Op.load 24 (Go.Operand.tmp 142), type := 24, pos := "ref.go:51", after := #[{ on := 10, ground := Go.Ground.data }, { on := 8, ground := Go.Ground.guard }], guard := some (8, false) }) (v := ?_) rfl (by kernel_rfl) (by kernel_rfl) (by kernel_rfl) (fun _ _ _ h => h) (Or.inl ⟨by rfl, ?_⟩) hH1 ?_
              rotate_left
              · (intro wz hSz; (try dsimp only at hSz); go_simp; try with_reducible rfl)
              try simp only [Act.put, List.setIfInBounds_toArray, List.set_cons_zero, List.set_cons_succ]
              refine wpAnyH_take (i := 12) (oi := { dst := some 144, op := Go.Op.move (Go.Operand.tmp 5), type := 3, pos := "ref.go:51", after := #[{ on := 8, ground := Go.Ground.guard }], guard := some (8, false) }) (v := ?_) rfl (by kernel_rfl) (by kernel_rfl) (by kernel_rfl) (fun _ _ _ h => h) (Or.inl ⟨by rfl, ?_⟩) hH1 ?_
              rotate_left
              · (intro wz hSz; (try dsimp only at hSz); go_simp; try with_reducible rfl)
              try simp only [Act.put, List.setIfInBounds_toArray, List.set_cons_zero, List.set_cons_succ]
              refine wpAnyH_take (i := 13) (oi := { dst := some 145, op := Go.Op.indexAddr 24 (Go.Operand.tmp 143) (Go.Operand.tmp 144), type := 0, pos := "ref.go:51", after := #[{ on := 11, ground := Go.Ground.data }, { on := 12, ground := Go.Ground.data }, { on := 8, ground := Go.Ground.guard }], guard := some (8, false) }) (v := ?_) rfl (by kernel_rfl) (by kernel_rfl) (by kernel_rfl) (fun _ _ _ h => h) (Or.inl ⟨by rfl, ?_⟩) hH1 ?_
              rotate_left
              · (intro wz hSz; (try dsimp only at hSz); go_simp; try with_reducible rfl)
              try simp only [Act.put, List.setIfInBounds_toArray, List.set_cons_zero, List.set_cons_succ]
              refine wpAnyH_take (i := 14) (oi := { dst := some 146, op := Go.Op.fieldAddr 76 (Go.Operand.tmp 145) 1, type := 0, pos := "ref.go:51", after := #[{ on := 13, ground := Go.Ground.data }, { on := 8, ground := Go.Ground.guard }], guard := some (8, false) }) (v := ?_) rfl (by kernel_rfl) (by kernel_rfl) (by kernel_rfl) (fun _ _ _ h => h) (Or.inl ⟨by rfl, ?_⟩) hH1 ?_
              rotate_left
              · (intro wz hSz; (try dsimp only at hSz); go_simp; try with_reducible rfl)
              try simp only [Act.put, List.setIfInBounds_toArray, List.set_cons_zero, List.set_cons_succ]
              refine wpAnyH_take (i := 15) (oi := { dst := some 147, op := Go.Op.load 40 (Go.Operand.tmp 146), type := 40, pos := "ref.go:51", after := #[{ on := 14, ground := Go.Ground.data }, { on := 8, ground := Go.Ground.guard }], guard := some (8, false) }) (v := ?_) rfl (by kernel_rfl) (by kernel_rfl) (by kernel_rfl) (fun _ _ _ h => h) (Or.inl ⟨by rfl, ?_⟩) hH1 ?_
              rotate_left
              · (intro wz hSz; (try dsimp only at hSz); go_simp; try with_reducible rfl)
              try simp only [Act.put, List.setIfInBounds_toArray, List.set_cons_zero, List.set_cons_succ]
              refine wpAnyH_ready (rs := [16]) (by kernel_rfl) (by simp) ?_
              refine AllReadyH.cons (o := { dst := some 148, op := Go.Op.call { callee := Go.Callee.value (Go.Operand.func 30), args := #[Go.Operand.tmp 141, Go.Operand.tmp 147], argTypes := #[26, 40] }, type := 4, pos := "ref.go:51", after := #[{ on := 9, ground := Go.Ground.data }, { on := 15, ground := Go.Ground.data }, { on := 8, ground := Go.Ground.chain }, { on := 8, ground := Go.Ground.guard }], guard := some (8, false) }) rfl (fun K hK => ?_) AllReadyH.nil
              go_simp
              with_reducible refine (HFT.out _).mono ?_
              rintro r w3 ⟨rfl, hbq⟩
              go_wp2_with fail
              refine hK.out _ _ (HSX.out _ (hH1.2.2.2.2.2.2.2.2.2.2.2.2.trans (hbq.mono hH1.2.2.2.2.2.2.2.2.2.2.2.2.size))) (fun hH2 => ?_)
              clear hK K hH1 hbq
              try simp only [Act.put, List.setIfInBounds_toArray, List.set_cons_zero, List.set_cons_succ]
              refine wpAnyH_take (i := 17) (oi := { dst := some 149, op := Go.Op.unOp Go.UnOp.not 4 (Go.Operand.tmp 148), type := 4, pos := "ref.go:51", after := #[{ on := 16, ground := Go.Ground.data }, { on := 8, ground := Go.Ground.guard }], guard := some (8, false) }) (v := ?_) rfl (by kernel_rfl) (by kernel_rfl) (by kernel_rfl) (fun _ _ _ h => h) (Or.inl ⟨by rfl, ?_⟩) hH2 ?_
              rotate_left
              · (intro wz hSz; (try dsimp only at hSz); go_simp; try with_reducible rfl)
              try simp only [Act.put, List.setIfInBounds_toArray, List.set_cons_zero, List.set_cons_succ]
              refine wpAnyH_take (i := 18) (oi := { dst := some 150, op := Go.Op.pick (Go.Operand.tmp 140) (Go.Operand.const (Go.Value.bool true)) (Go.Operand.tmp 149), type := 4, pos := "ref.go:51", after := #[{ on := 8, ground := Go.Ground.data }, { on := 17, ground := Go.Ground.data }], guard := none }) (v := ?_) rfl (by kernel_rfl) (by kernel_rfl) (by kernel_rfl) (fun _ _ _ h => h) (Or.inl ⟨by rfl, ?_⟩) hH2 ?_
              rotate_left
              · (intro wz hSz; (try dsimp only at hSz); go_simp; try with_reducible rfl)
              try simp only [Act.put, List.setIfInBounds_toArray, List.set_cons_zero, List.set_cons_succ]
              refine wpAnyH_done (by kernel_rfl) ?_ _
              have HBX := Lib.hid (HB.out.trans (hH2.2.2.2.2.2.2.2.2.2.2.2.2.mono HB.out.size))
              clear hH2
              clear HSX HNM HFT HP HB
              go_wp2_with fail
              go_loopg [6] (j + 1) (fun m' i wx => ∃ k : Nat, k ≤ j ∧ i = .int .i64 k ∧ j + 1 - k ≤ m' ∧ Hid (Below W0.heap.size W0 wx) ∧ Hid (∀ i (hi : i < fs.length), i < k → fs[i].pre ≠ u.pre))
              case atStart => exact ⟨0, Nat.zero_le _, rfl, by omega, HBX, Lib.hid (fun i _ h => absurd h (Nat.not_lt_zero _))⟩
              case round =>
                clear HBX
                obtain ⟨k, hk, rfl, hmm, HBK, HNE⟩ := hrel
                by_cases hkj : k < j
                · have hkl2 : k < fs.length := by omega
                  have HPK := Lib.hid ((HBK.out.block pb (L.blk_lt HP0.out)).trans HP0.out)
                  have p7 : wr.cell? ⟨pb, 8, none⟩ = some (.slice (some ⟨bk, off, none⟩) fs.length fcap) := L.blk_cell HPK.out 8
                  have hbk2 : bk < W0.heap.size := HBKL.out
                  have d0 := (HBK.out.cell (p := ⟨bk, off + k * 3, none⟩) hbk2).trans (HIN0.out k hkl2)
                  have d1 := (HBK.out.cell (p := ⟨bk, off + j * 3, none⟩) hbk2).trans (HIN0.out j hlt)
                  rw [← hu'.out, ← HXU.out] at d1
                  have hq := str_bytes fs[k].pre x
                  rw [show x.data.toList = u.pre by rw [HXU.out, list_data]] at hq
                  have h0k : (0 : Int) ≤ (k : Int) := by omega
                  have hki : (k : Int) < (fs.length : Int) := by omega
                  by_cases heq : fs[k].pre = u.pre
                  · rw [decide_eq_true heq] at hq
                    generalize (⟨fs[k].pre.toArray⟩ : ByteArray) = xk at *
                    have HNO := Lib.hid (show ok = false by rw [HOK2.out, HDP.out k hkj heq])
                    clear HDP HNE heq HGO2
                    go_wp2_with fail
                    go_quiet (fail)
                    clear d0 d1 hq
                    go_wp2_with fail
                    go_ret
                    exact ⟨by rw [HNO.out]; rfl, below_drewN (HB0.out.trans (HBK.out.mono HB0.out.size)) _⟩
                  · rw [decide_eq_false heq] at hq
                    generalize (⟨fs[k].pre.toArray⟩ : ByteArray) = xk at *
                    have HNE2 : Hid (∀ i (hi : i < fs.length), i < k + 1 → fs[i].pre ≠ u.pre) := Lib.hid (fun i hi h => by
                      rcases Nat.lt_or_ge i k with h1 | h1
                      · exact HNE.out i hi h1
                      · have e : i = k := by omega
                        subst e
                        exact heq)
                    clear HNE heq
                    go_wp2_with fail
                    go_quiet (fail)
                    clear d0 d1 hq
                    go_wp2_with fail
                    go_roundg (j + 1 - (k + 1))
                    case rel => exact ⟨k + 1, by omega, by go_num, Nat.le_refl _, Lib.hid (below_drewN HBK.out _), HNE2⟩
                    case measure => omega
                · have hke : k = j := by omega
                  subst hke
                  have HS2 := Lib.hid (HGO2.out (fun i hi h => HNE.out i hi h))
                  clear HGO2 HNE HDP
                  go_wp2_with fail
                  go_roundg (fs.length - (k + 1))
                  case rel => exact ⟨k + 1, by omega, by go_num, Nat.le_refl _, HBK, HS2⟩
                  case measure => omega
        · have hje : j = fs.length := by omega
          subst hje
          have HNO := Lib.hid (show ok = true by
            have := HS.out
            rw [List.take_of_length_le (by rw [List.length_map]; exact Nat.le_refl _)] at this
            rw [HOK2.out, this])
          have p8 : wr.cell? ⟨pb, 8, none⟩ = some (.slice fA fs.length fcap) := L.blk_cell HP.out 8
          clear HS HOK2 hj hm hlt HP
          go_wp2_with fail
          go_ret
          exact ⟨by rw [HNO.out]; rfl, HB0.out.trans (HB.out.mono HB0.out.size)⟩
end Go.Proofs.YtadhhamfikpimaaDoor.O
