/-
  ScoreMeans, walked.
-/
import Derived.Test.YtngboallknmepaaGxaj
namespace Go.Proofs.Ytngboallknmepaa.Fp
set_option linter.unusedVariables false
set_option linter.unusedSimpArgs false
open Go.RowKit Go.Sort Go.Shelf
open T
open I (alloc1 own_at own_below)

theorem fl_below {w w' : World} {A : Option Addr} {l : List UInt64} (h : FlIn w A l) (hb : Below w.heap.size w w') : FlIn w' A l := h.below hb
set_option maxHeartbeats 4000000 in
set_option maxRecDepth 100000 in
theorem means_law (A : Option Addr) (c : Nat) (l : List UInt64) (w : World) (hL : FlIn w A l) (hr : l.length ≤ c) (hz : A = none → c = 0) (hl : l.length ≤ 9223372036854775807) :
    Calls Try.prog 6 #[.slice A l.length c] w fun e w' => e = .returned (.bool true) ∧ Below w.heap.size w w' := by
  have HF := Lib.hid (few_any A c l w hr hz hl)
  obtain ⟨m, hm⟩ : ∃ m, m = l.take 60 := ⟨_, rfl⟩
  rw [← hm] at HF
  have hm60 : m.length ≤ 60 := by rw [hm, List.length_take]; omega
  have HM : Hid (FlIn w A m) := Lib.hid (by rw [hm]; exact fl_take hL 60)
  have HS := Lib.hid (stable_all hm60)
  have HZ := Lib.hid hz
  clear hL hm hr hz hl
  go_enter Try.func6, Try.ntmps6
  go_wp2_with (first | (go_at_call 16; refine HF.out.mono ?_; rintro e w' ⟨rfl, rfl⟩) | (go_at_call 11; refine (live22 _).mono ?_; rintro e wl ⟨rfl, HB⟩) | (go_at_call 22; refine (mean_any A c m _ (fl_below HM.out HB) (by omega)).mono ?_; rintro e w1 ⟨r1, rfl, HR1, HG⟩; replace HB := HB.trans (HG.below.mono HB.size); clear HG) | (go_at_call 23; refine (rmean_any A c m _ (fl_below HM.out HB) (by omega)).mono ?_; rintro e w2 ⟨r2, rfl, HR2, HG⟩; replace HB := HB.trans (HG.below.mono HB.size); have l1 := HR1.lt; have l2 := HR2.lt; have s12 : same r1 r2 = true := (by unfold same; simpa using HR1.ky HR2); clear HG HR1 HR2) | (go_at_call 24; refine (median_any A c m _ HS.out (fl_below HM.out HB) HZ.out (by omega)).mono ?_; rintro e w3 ⟨s3, r3, rfl, p3, o3, HR3, HG⟩; replace HB := HB.trans (HG.mono HB.size); clear HG) | (go_at_call 25; refine (rmedian_any A c m _ (fl_below HM.out HB) (by omega)).mono ?_; rintro e w4 ⟨s4, r4, rfl, p4, o4, HR4, HG⟩; replace HB := HB.trans (HG.mono HB.size); have l3 := HR3.lt; have l4 := HR4.lt; have s34 : same r3 r4 = true := (by unfold same; simpa using Md.ky p3 p4 o3 o4 HR3 HR4); clear HG p3 o3 p4 o4 HR3 HR4) | (go_at_call 12; refine (same_any _ _ (by assumption) (by assumption) _).mono ?_; rintro e w' ⟨rfl, rfl⟩))
  go_ret
  exact ⟨rfl, HB⟩
end Go.Proofs.Ytngboallknmepaa.Fp
