/-
  The law PolicyFloors, walked: it returns true for every policy, two names and two labels, where the library's table of powers of ten holds what its text lays.
-/
import Derived.Test.YtadhhamfikpimaaDoorGPolFb
namespace Go.Proofs.YtadhhamfikpimaaDoor.O
set_option linter.unusedVariables false
set_option linter.unusedSimpArgs false
open Go.RowKit
open T

set_option maxRecDepth 100000 in
set_option maxHeartbeats 4000000 in
theorem flo_bad {w : World} {n0 n1 n2 n3 n4 n5 : Int} {hid : ByteArray} {uA fA : Option Addr} {ucap fcap : Nat} {us : List Usr} {fs : List Flr} {x y z : ByteArray} {l m l1 l2 : Int} {c d k1 k2 : Nat} (HT : Hid (Tab w)) (HU : Hid (UsersIn w uA us)) (HF : Hid (FloorsIn w fA fs)) (HAD : Hid (∀ w : World, (Op.stringOp .add x y).run Tryd.prog w = .ok (.string z) w))
    (F1 : Hid (FlC n0 n1 n2 n3 n4 n5 hid uA fA ucap fcap us fs x l1 k1)) (F2 : Hid (FlC n0 n1 n2 n3 n4 n5 hid uA fA ucap fcap us fs z l2 k2)) (BB : Hid (BlC l1 l2 k1 k2 true)) (CK : Hid (CkC n0 n1 n2 n3 n4 n5 hid uA fA ucap fcap us fs 2)) :
    Calls Tryd.prog 6 #[polA n0 n1 n2 n3 n4 n5 hid (.slice uA us.length ucap) (.slice fA fs.length fcap), .string x, .string y, L.lab l c, L.lab m d] w fun e w' => e = .returned (.bool true) ∧ Below w.heap.size w w' := by
  have HS0 := Lib.hid (heldP_drew (heldP_start w n0 n1 n2 n3 n4 n5 hid uA fA ucap fcap us fs l m c d HU.out HF.out))
  have ad := HAD.out
  clear HU HF HAD
  go_enter Tryd.func6, Tryd.ntmps6
  go_wp2_with fail
  go_region_held3 (fun w' => w'.cell? ⟨w.heap.size, 0, none⟩ = some (.int .i64 n0) ∧ w'.cell? ⟨w.heap.size, 1, none⟩ = some (.int .i64 n1) ∧ w'.cell? ⟨w.heap.size, 2, none⟩ = some (.int .i64 n2) ∧ w'.cell? ⟨w.heap.size, 3, none⟩ = some (.int .i64 n3) ∧ w'.cell? ⟨w.heap.size, 4, none⟩ = some (.int .i64 n4) ∧ w'.cell? ⟨w.heap.size, 5, none⟩ = some (.int .i64 n5) ∧ w'.cell? ⟨w.heap.size, 6, none⟩ = some (.string hid) ∧ w'.cell? ⟨w.heap.size, 7, none⟩ = some (.slice uA us.length ucap) ∧ w'.cell? ⟨w.heap.size, 8, none⟩ = some (.slice fA fs.length fcap) ∧ w'.cell? ⟨w.heap.size + 1, 0, none⟩ = some (.int .i64 l) ∧ w'.cell? ⟨w.heap.size + 1, 1, none⟩ = some (.int .u64 (c : Int)) ∧ w'.cell? ⟨w.heap.size + 1 + 1, 0, none⟩ = some (.int .i64 m) ∧ w'.cell? ⟨w.heap.size + 1 + 1, 1, none⟩ = some (.int .u64 (d : Int)) ∧ FlCore w uA fA us fs w')
      (first | with_reducible exact HS0.out | with_reducible exact heldP_below (by assumption) hbq)
      (first
        | (go_at_call 21; with_reducible refine (F1.out.call (w := w) (by with_reducible exact heldP_core (by assumption))).mono ?_; rintro r wq ⟨rfl, hbq⟩)
        | (go_at_call 21; with_reducible refine (F2.out.call (w := w) (by with_reducible exact heldP_core (by assumption))).mono ?_; rintro r wq ⟨rfl, hbq⟩)
        | (go_at_call 20; with_reducible refine (BB.out.call _).mono ?_; rintro r wq ⟨rfl, hbq⟩))
  all_goals
    clear HS0 F1 F2 BB ad
    have HS := Lib.hid (show HeldP w n0 n1 n2 n3 n4 n5 hid uA fA ucap fcap us fs l m c d wq by assumption)
    obtain ⟨a0, a1, a2, a3, a4, a5, a6, a7, a8, a9, a10, a11, a12, acore⟩ := HS.out
    go_wp2_with fail
    with_reducible refine (CK.out.call acore).mono ?_
    rintro e w2 ⟨rfl, hb⟩
    replace HS := Lib.hid (heldP_below HS.out hb)
    clear a0 a1 a2 a3 a4 a5 a6 a7 a8 a9 a10 a11 a12 acore hb
    obtain ⟨a0, a1, a2, a3, a4, a5, a6, a7, a8, a9, a10, a11, a12, acore⟩ := HS.out
    go_wp2_with fail
    with_reducible refine (live3 _ (heldP_tab HT.out HS.out)).mono ?_
    rintro e w9 ⟨rfl, hb⟩
    replace HS := Lib.hid (heldP_below HS.out hb)
    clear a0 a1 a2 a3 a4 a5 a6 a7 a8 a9 a10 a11 a12 acore hb
    go_wp2_with fail
    go_ret
    exact ⟨rfl, heldP_end HS.out⟩

set_option maxRecDepth 100000 in
set_option maxHeartbeats 4000000 in
theorem flo_a {w : World} {n0 n1 n2 n3 n4 n5 : Int} {hid : ByteArray} {uA fA : Option Addr} {ucap fcap : Nat} {us : List Usr} {fs : List Flr} {x y z : ByteArray} {l m l1 l2 : Int} {c d k1 k2 : Nat} (HT : Hid (Tab w)) (HU : Hid (UsersIn w uA us)) (HF : Hid (FloorsIn w fA fs)) (HAD : Hid (∀ w : World, (Op.stringOp .add x y).run Tryd.prog w = .ok (.string z) w))
    (F1 : Hid (FlC n0 n1 n2 n3 n4 n5 hid uA fA ucap fcap us fs x l1 k1)) (F2 : Hid (FlC n0 n1 n2 n3 n4 n5 hid uA fA ucap fcap us fs z l2 k2)) (BB : Hid (BlC l1 l2 k1 k2 true)) (CK : Hid (CkC n0 n1 n2 n3 n4 n5 hid uA fA ucap fcap us fs 0)) (FA : Hid (FtC n0 n1 n2 n3 n4 n5 hid (.slice uA us.length ucap) (.slice fA fs.length fcap) (l) (c) false)) :
    Calls Tryd.prog 6 #[polA n0 n1 n2 n3 n4 n5 hid (.slice uA us.length ucap) (.slice fA fs.length fcap), .string x, .string y, L.lab l c, L.lab m d] w fun e w' => e = .returned (.bool true) ∧ Below w.heap.size w w' := by
  have HS0 := Lib.hid (heldP_drew (heldP_start w n0 n1 n2 n3 n4 n5 hid uA fA ucap fcap us fs l m c d HU.out HF.out))
  have ad := HAD.out
  clear HU HF HAD
  go_enter Tryd.func6, Tryd.ntmps6
  go_wp2_with fail
  go_region_held3 (fun w' => w'.cell? ⟨w.heap.size, 0, none⟩ = some (.int .i64 n0) ∧ w'.cell? ⟨w.heap.size, 1, none⟩ = some (.int .i64 n1) ∧ w'.cell? ⟨w.heap.size, 2, none⟩ = some (.int .i64 n2) ∧ w'.cell? ⟨w.heap.size, 3, none⟩ = some (.int .i64 n3) ∧ w'.cell? ⟨w.heap.size, 4, none⟩ = some (.int .i64 n4) ∧ w'.cell? ⟨w.heap.size, 5, none⟩ = some (.int .i64 n5) ∧ w'.cell? ⟨w.heap.size, 6, none⟩ = some (.string hid) ∧ w'.cell? ⟨w.heap.size, 7, none⟩ = some (.slice uA us.length ucap) ∧ w'.cell? ⟨w.heap.size, 8, none⟩ = some (.slice fA fs.length fcap) ∧ w'.cell? ⟨w.heap.size + 1, 0, none⟩ = some (.int .i64 l) ∧ w'.cell? ⟨w.heap.size + 1, 1, none⟩ = some (.int .u64 (c : Int)) ∧ w'.cell? ⟨w.heap.size + 1 + 1, 0, none⟩ = some (.int .i64 m) ∧ w'.cell? ⟨w.heap.size + 1 + 1, 1, none⟩ = some (.int .u64 (d : Int)) ∧ FlCore w uA fA us fs w')
      (first | with_reducible exact HS0.out | with_reducible exact heldP_below (by assumption) hbq)
      (first
        | (go_at_call 21; with_reducible refine (F1.out.call (w := w) (by with_reducible exact heldP_core (by assumption))).mono ?_; rintro r wq ⟨rfl, hbq⟩)
        | (go_at_call 21; with_reducible refine (F2.out.call (w := w) (by with_reducible exact heldP_core (by assumption))).mono ?_; rintro r wq ⟨rfl, hbq⟩)
        | (go_at_call 20; with_reducible refine (BB.out.call _).mono ?_; rintro r wq ⟨rfl, hbq⟩))
  all_goals
    clear HS0 F1 F2 BB ad
    have HS := Lib.hid (show HeldP w n0 n1 n2 n3 n4 n5 hid uA fA ucap fcap us fs l m c d wq by assumption)
    obtain ⟨a0, a1, a2, a3, a4, a5, a6, a7, a8, a9, a10, a11, a12, acore⟩ := HS.out
    go_wp2_with fail
    with_reducible refine (CK.out.call acore).mono ?_
    rintro e w2 ⟨rfl, hb⟩
    replace HS := Lib.hid (heldP_below HS.out hb)
    clear a0 a1 a2 a3 a4 a5 a6 a7 a8 a9 a10 a11 a12 acore hb
    obtain ⟨a0, a1, a2, a3, a4, a5, a6, a7, a8, a9, a10, a11, a12, acore⟩ := HS.out
    go_wp2_with fail
    with_reducible refine (FA.out.call _).mono ?_
    rintro e w3 ⟨rfl, hb⟩
    replace HS := Lib.hid (heldP_below HS.out hb)
    clear a0 a1 a2 a3 a4 a5 a6 a7 a8 a9 a10 a11 a12 acore hb
    obtain ⟨a0, a1, a2, a3, a4, a5, a6, a7, a8, a9, a10, a11, a12, acore⟩ := HS.out
    go_wp2_with fail
    with_reducible refine (live3 _ (heldP_tab HT.out HS.out)).mono ?_
    rintro e w9 ⟨rfl, hb⟩
    replace HS := Lib.hid (heldP_below HS.out hb)
    clear a0 a1 a2 a3 a4 a5 a6 a7 a8 a9 a10 a11 a12 acore hb
    go_wp2_with fail
    go_ret
    exact ⟨rfl, heldP_end HS.out⟩

set_option maxRecDepth 100000 in
set_option maxHeartbeats 4000000 in
theorem flo_b {w : World} {n0 n1 n2 n3 n4 n5 : Int} {hid : ByteArray} {uA fA : Option Addr} {ucap fcap : Nat} {us : List Usr} {fs : List Flr} {x y z : ByteArray} {l m l1 l2 : Int} {c d k1 k2 : Nat} (HT : Hid (Tab w)) (HU : Hid (UsersIn w uA us)) (HF : Hid (FloorsIn w fA fs)) (HAD : Hid (∀ w : World, (Op.stringOp .add x y).run Tryd.prog w = .ok (.string z) w))
    (F1 : Hid (FlC n0 n1 n2 n3 n4 n5 hid uA fA ucap fcap us fs x l1 k1)) (F2 : Hid (FlC n0 n1 n2 n3 n4 n5 hid uA fA ucap fcap us fs z l2 k2)) (BB : Hid (BlC l1 l2 k1 k2 true)) (CK : Hid (CkC n0 n1 n2 n3 n4 n5 hid uA fA ucap fcap us fs 0)) (FA : Hid (FtC n0 n1 n2 n3 n4 n5 hid (.slice uA us.length ucap) (.slice fA fs.length fcap) (l) (c) true)) (FB : Hid (FtC n0 n1 n2 n3 n4 n5 hid (.slice uA us.length ucap) (.slice fA fs.length fcap) (m) (d) false)) :
    Calls Tryd.prog 6 #[polA n0 n1 n2 n3 n4 n5 hid (.slice uA us.length ucap) (.slice fA fs.length fcap), .string x, .string y, L.lab l c, L.lab m d] w fun e w' => e = .returned (.bool true) ∧ Below w.heap.size w w' := by
  have HS0 := Lib.hid (heldP_drew (heldP_start w n0 n1 n2 n3 n4 n5 hid uA fA ucap fcap us fs l m c d HU.out HF.out))
  have ad := HAD.out
  clear HU HF HAD
  go_enter Tryd.func6, Tryd.ntmps6
  go_wp2_with fail
  go_region_held3 (fun w' => w'.cell? ⟨w.heap.size, 0, none⟩ = some (.int .i64 n0) ∧ w'.cell? ⟨w.heap.size, 1, none⟩ = some (.int .i64 n1) ∧ w'.cell? ⟨w.heap.size, 2, none⟩ = some (.int .i64 n2) ∧ w'.cell? ⟨w.heap.size, 3, none⟩ = some (.int .i64 n3) ∧ w'.cell? ⟨w.heap.size, 4, none⟩ = some (.int .i64 n4) ∧ w'.cell? ⟨w.heap.size, 5, none⟩ = some (.int .i64 n5) ∧ w'.cell? ⟨w.heap.size, 6, none⟩ = some (.string hid) ∧ w'.cell? ⟨w.heap.size, 7, none⟩ = some (.slice uA us.length ucap) ∧ w'.cell? ⟨w.heap.size, 8, none⟩ = some (.slice fA fs.length fcap) ∧ w'.cell? ⟨w.heap.size + 1, 0, none⟩ = some (.int .i64 l) ∧ w'.cell? ⟨w.heap.size + 1, 1, none⟩ = some (.int .u64 (c : Int)) ∧ w'.cell? ⟨w.heap.size + 1 + 1, 0, none⟩ = some (.int .i64 m) ∧ w'.cell? ⟨w.heap.size + 1 + 1, 1, none⟩ = some (.int .u64 (d : Int)) ∧ FlCore w uA fA us fs w')
      (first | with_reducible exact HS0.out | with_reducible exact heldP_below (by assumption) hbq)
      (first
        | (go_at_call 21; with_reducible refine (F1.out.call (w := w) (by with_reducible exact heldP_core (by assumption))).mono ?_; rintro r wq ⟨rfl, hbq⟩)
        | (go_at_call 21; with_reducible refine (F2.out.call (w := w) (by with_reducible exact heldP_core (by assumption))).mono ?_; rintro r wq ⟨rfl, hbq⟩)
        | (go_at_call 20; with_reducible refine (BB.out.call _).mono ?_; rintro r wq ⟨rfl, hbq⟩))
  all_goals
    clear HS0 F1 F2 BB ad
    have HS := Lib.hid (show HeldP w n0 n1 n2 n3 n4 n5 hid uA fA ucap fcap us fs l m c d wq by assumption)
    obtain ⟨a0, a1, a2, a3, a4, a5, a6, a7, a8, a9, a10, a11, a12, acore⟩ := HS.out
    go_wp2_with fail
    with_reducible refine (CK.out.call acore).mono ?_
    rintro e w2 ⟨rfl, hb⟩
    replace HS := Lib.hid (heldP_below HS.out hb)
    clear a0 a1 a2 a3 a4 a5 a6 a7 a8 a9 a10 a11 a12 acore hb
    obtain ⟨a0, a1, a2, a3, a4, a5, a6, a7, a8, a9, a10, a11, a12, acore⟩ := HS.out
    go_wp2_with fail
    with_reducible refine (FA.out.call _).mono ?_
    rintro e w3 ⟨rfl, hb⟩
    replace HS := Lib.hid (heldP_below HS.out hb)
    clear a0 a1 a2 a3 a4 a5 a6 a7 a8 a9 a10 a11 a12 acore hb
    obtain ⟨a0, a1, a2, a3, a4, a5, a6, a7, a8, a9, a10, a11, a12, acore⟩ := HS.out
    go_wp2_with fail
    with_reducible refine (FB.out.call _).mono ?_
    rintro e w4 ⟨rfl, hb⟩
    replace HS := Lib.hid (heldP_below HS.out hb)
    clear a0 a1 a2 a3 a4 a5 a6 a7 a8 a9 a10 a11 a12 acore hb
    obtain ⟨a0, a1, a2, a3, a4, a5, a6, a7, a8, a9, a10, a11, a12, acore⟩ := HS.out
    go_wp2_with fail
    with_reducible refine (live3 _ (heldP_tab HT.out HS.out)).mono ?_
    rintro e w9 ⟨rfl, hb⟩
    replace HS := Lib.hid (heldP_below HS.out hb)
    clear a0 a1 a2 a3 a4 a5 a6 a7 a8 a9 a10 a11 a12 acore hb
    go_wp2_with fail
    go_ret
    exact ⟨rfl, heldP_end HS.out⟩

set_option maxRecDepth 100000 in
set_option maxHeartbeats 4000000 in
theorem flo_all {w : World} {n0 n1 n2 n3 n4 n5 : Int} {hid : ByteArray} {uA fA : Option Addr} {ucap fcap : Nat} {us : List Usr} {fs : List Flr} {x y z : ByteArray} {l m l1 l2 : Int} {c d k1 k2 : Nat} (HT : Hid (Tab w)) (HU : Hid (UsersIn w uA us)) (HF : Hid (FloorsIn w fA fs)) (HAD : Hid (∀ w : World, (Op.stringOp .add x y).run Tryd.prog w = .ok (.string z) w))
    (F1 : Hid (FlC n0 n1 n2 n3 n4 n5 hid uA fA ucap fcap us fs x l1 k1)) (F2 : Hid (FlC n0 n1 n2 n3 n4 n5 hid uA fA ucap fcap us fs z l2 k2)) (BB : Hid (BlC l1 l2 k1 k2 true)) (CK : Hid (CkC n0 n1 n2 n3 n4 n5 hid uA fA ucap fcap us fs 0)) (FA : Hid (FtC n0 n1 n2 n3 n4 n5 hid (.slice uA us.length ucap) (.slice fA fs.length fcap) (l) (c) true)) (FB : Hid (FtC n0 n1 n2 n3 n4 n5 hid (.slice uA us.length ucap) (.slice fA fs.length fcap) (m) (d) true)) {j k : Int} {e f : Nat} (JJ : Hid (JnC l m c d j e)) (MM : Hid (MtC l m c d k f)) (FJ : Hid (FtC n0 n1 n2 n3 n4 n5 hid (.slice uA us.length ucap) (.slice fA fs.length fcap) (j) (e) true)) (FM : Hid (FtC n0 n1 n2 n3 n4 n5 hid (.slice uA us.length ucap) (.slice fA fs.length fcap) (k) (f) true)) (FF : Hid (FtC n0 n1 n2 n3 n4 n5 hid (.slice uA us.length ucap) (.slice fA fs.length fcap) (l1) (k1) true)) (F3 : Hid (FlC n0 n1 n2 n3 n4 n5 hid uA fA ucap fcap us fs x l1 k1)) :
    Calls Tryd.prog 6 #[polA n0 n1 n2 n3 n4 n5 hid (.slice uA us.length ucap) (.slice fA fs.length fcap), .string x, .string y, L.lab l c, L.lab m d] w fun e w' => e = .returned (.bool true) ∧ Below w.heap.size w w' := by
  have HS0 := Lib.hid (heldP_drew (heldP_start w n0 n1 n2 n3 n4 n5 hid uA fA ucap fcap us fs l m c d HU.out HF.out))
  have ad := HAD.out
  clear HU HF HAD
  go_enter Tryd.func6, Tryd.ntmps6
  go_wp2_with fail
  go_region_held3 (fun w' => w'.cell? ⟨w.heap.size, 0, none⟩ = some (.int .i64 n0) ∧ w'.cell? ⟨w.heap.size, 1, none⟩ = some (.int .i64 n1) ∧ w'.cell? ⟨w.heap.size, 2, none⟩ = some (.int .i64 n2) ∧ w'.cell? ⟨w.heap.size, 3, none⟩ = some (.int .i64 n3) ∧ w'.cell? ⟨w.heap.size, 4, none⟩ = some (.int .i64 n4) ∧ w'.cell? ⟨w.heap.size, 5, none⟩ = some (.int .i64 n5) ∧ w'.cell? ⟨w.heap.size, 6, none⟩ = some (.string hid) ∧ w'.cell? ⟨w.heap.size, 7, none⟩ = some (.slice uA us.length ucap) ∧ w'.cell? ⟨w.heap.size, 8, none⟩ = some (.slice fA fs.length fcap) ∧ w'.cell? ⟨w.heap.size + 1, 0, none⟩ = some (.int .i64 l) ∧ w'.cell? ⟨w.heap.size + 1, 1, none⟩ = some (.int .u64 (c : Int)) ∧ w'.cell? ⟨w.heap.size + 1 + 1, 0, none⟩ = some (.int .i64 m) ∧ w'.cell? ⟨w.heap.size + 1 + 1, 1, none⟩ = some (.int .u64 (d : Int)) ∧ FlCore w uA fA us fs w')
      (first | with_reducible exact HS0.out | with_reducible exact heldP_below (by assumption) hbq)
      (first
        | (go_at_call 21; with_reducible refine (F1.out.call (w := w) (by with_reducible exact heldP_core (by assumption))).mono ?_; rintro r wq ⟨rfl, hbq⟩)
        | (go_at_call 21; with_reducible refine (F2.out.call (w := w) (by with_reducible exact heldP_core (by assumption))).mono ?_; rintro r wq ⟨rfl, hbq⟩)
        | (go_at_call 20; with_reducible refine (BB.out.call _).mono ?_; rintro r wq ⟨rfl, hbq⟩))
  all_goals
    clear HS0 F1 F2 BB ad
    have HS := Lib.hid (show HeldP w n0 n1 n2 n3 n4 n5 hid uA fA ucap fcap us fs l m c d wq by assumption)
    obtain ⟨a0, a1, a2, a3, a4, a5, a6, a7, a8, a9, a10, a11, a12, acore⟩ := HS.out
    go_wp2_with fail
    with_reducible refine (CK.out.call acore).mono ?_
    rintro e w2 ⟨rfl, hb⟩
    replace HS := Lib.hid (heldP_below HS.out hb)
    clear a0 a1 a2 a3 a4 a5 a6 a7 a8 a9 a10 a11 a12 acore hb
    obtain ⟨a0, a1, a2, a3, a4, a5, a6, a7, a8, a9, a10, a11, a12, acore⟩ := HS.out
    go_wp2_with fail
    with_reducible refine (FA.out.call _).mono ?_
    rintro e w3 ⟨rfl, hb⟩
    replace HS := Lib.hid (heldP_below HS.out hb)
    clear a0 a1 a2 a3 a4 a5 a6 a7 a8 a9 a10 a11 a12 acore hb
    obtain ⟨a0, a1, a2, a3, a4, a5, a6, a7, a8, a9, a10, a11, a12, acore⟩ := HS.out
    go_wp2_with fail
    with_reducible refine (FB.out.call _).mono ?_
    rintro e w4 ⟨rfl, hb⟩
    replace HS := Lib.hid (heldP_below HS.out hb)
    clear a0 a1 a2 a3 a4 a5 a6 a7 a8 a9 a10 a11 a12 acore hb
    have HSD := Lib.hid (heldP_drew HS.out)
    go_wp2_with fail
    go_region_held3 (fun w' => w'.cell? ⟨w.heap.size, 0, none⟩ = some (.int .i64 n0) ∧ w'.cell? ⟨w.heap.size, 1, none⟩ = some (.int .i64 n1) ∧ w'.cell? ⟨w.heap.size, 2, none⟩ = some (.int .i64 n2) ∧ w'.cell? ⟨w.heap.size, 3, none⟩ = some (.int .i64 n3) ∧ w'.cell? ⟨w.heap.size, 4, none⟩ = some (.int .i64 n4) ∧ w'.cell? ⟨w.heap.size, 5, none⟩ = some (.int .i64 n5) ∧ w'.cell? ⟨w.heap.size, 6, none⟩ = some (.string hid) ∧ w'.cell? ⟨w.heap.size, 7, none⟩ = some (.slice uA us.length ucap) ∧ w'.cell? ⟨w.heap.size, 8, none⟩ = some (.slice fA fs.length fcap) ∧ w'.cell? ⟨w.heap.size + 1, 0, none⟩ = some (.int .i64 l) ∧ w'.cell? ⟨w.heap.size + 1, 1, none⟩ = some (.int .u64 (c : Int)) ∧ w'.cell? ⟨w.heap.size + 1 + 1, 0, none⟩ = some (.int .i64 m) ∧ w'.cell? ⟨w.heap.size + 1 + 1, 1, none⟩ = some (.int .u64 (d : Int)) ∧ FlCore w uA fA us fs w')
        (first | with_reducible exact HSD.out | with_reducible exact heldP_below (by assumption) hbq)
        (first
          | (go_at_call 14; with_reducible refine (live3 _ (by with_reducible exact heldP_tab HT.out (by assumption))).mono ?_; rintro r wq ⟨rfl, hbq⟩)
          | (go_at_call 23; with_reducible refine (JJ.out.call _).mono ?_; rintro r wq ⟨rfl, hbq⟩)
          | (go_at_call 24; with_reducible refine (MM.out.call _).mono ?_; rintro r wq ⟨rfl, hbq⟩)
          | (go_at_call 21; with_reducible refine (F3.out.call (w := w) (by with_reducible exact heldP_core (by assumption))).mono ?_; rintro r wq ⟨rfl, hbq⟩)
          | (go_at_call 22; with_reducible refine (FJ.out.call _).mono ?_; rintro r wq ⟨rfl, hbq⟩)
          | (go_at_call 22; with_reducible refine (FM.out.call _).mono ?_; rintro r wq ⟨rfl, hbq⟩)
          | (go_at_call 22; with_reducible refine (FF.out.call _).mono ?_; rintro r wq ⟨rfl, hbq⟩))
    all_goals
      go_wp2_with fail
      go_ret
      exact ⟨rfl, heldP_end (by assumption)⟩

theorem fits_c (n0 n1 n2 n3 n4 n5 : Int) (hid : ByteArray) (uv fv : Value) (l : Int) (k : Nat) (hk : k < 18446744073709551616) {b : Bool} (h : fitsB n0 n1 l k = b) : FtC n0 n1 n2 n3 n4 n5 hid uv fv l k b := fun W => by
  have := fits_any n0 n1 n2 n3 n4 n5 hid uv fv l k W hk
  rw [h] at this
  exact this
theorem floors_walk (n0 n1 n2 n3 n4 n5 : Int) (hid : ByteArray) (uA fA : Option Addr) (ucap fcap : Nat) (us : List Usr) (fs : List Flr) (x y : ByteArray) (l m : Int) (c d : Nat) (w : World)
    (hh : hid.size ≤ maxLen) (hU : UsersIn w uA us) (hul : us.length ≤ maxLen) (huc : ∀ u ∈ us, u.ct < 18446744073709551616 ∧ u.name.length ≤ maxLen) (hF : FloorsIn w fA fs) (hfl : fs.length ≤ maxLen) (hfc : ∀ u ∈ fs, u.ct < 18446744073709551616 ∧ u.pre.length ≤ maxLen)
    (hxy : x.size + y.size ≤ 9223372036854775807) (hc : c < 18446744073709551616) (hd : d < 18446744073709551616) (ht : Tab w) :
    Calls Tryd.prog 6 #[polA n0 n1 n2 n3 n4 n5 hid (.slice uA us.length ucap) (.slice fA fs.length fcap), .string x, .string y, L.lab l c, L.lab m d] w fun e w' => e = .returned (.bool true) ∧ Below w.heap.size w w' := by
  have hct : ∀ f ∈ fs, f.ct < 18446744073709551616 := fun f h => (hfc f h).1
  have HT := Lib.hid ht
  have HU := Lib.hid hU
  have HF := Lib.hid hF
  have HAD : Hid (∀ w : World, (Op.stringOp .add x y).run Tryd.prog w = .ok (.string (x ++ y)) w) := Lib.hid fun w => run_string_add_sum w x y (by omega)
  have s1 := floorOn_small x.data.toList fs (0, 0) hct (by decide)
  have s2 := floorOn_small (x ++ y).data.toList fs (0, 0) hct (by decide)
  have F1 : Hid (FlC n0 n1 n2 n3 n4 n5 hid uA fA ucap fcap us fs x _ _) := Lib.hid fun W h => floor_any n0 n1 n2 n3 n4 n5 hid uA fA us.length ucap fcap fs x W h hct hfl
  have F2 : Hid (FlC n0 n1 n2 n3 n4 n5 hid uA fA ucap fcap us fs (x ++ y) _ _) := Lib.hid fun W h => floor_any n0 n1 n2 n3 n4 n5 hid uA fA us.length ucap fcap fs (x ++ y) W h hct hfl
  have hbl : L.belowB (floorOn x.data.toList (0, 0) fs).1 (floorOn x.data.toList (0, 0) fs).2 (floorOn (x ++ y).data.toList (0, 0) fs).1 (floorOn (x ++ y).data.toList (0, 0) fs).2 = true := by
    rw [show (x ++ y).data.toList = x.data.toList ++ y.data.toList by simp]
    exact floor_below _ _ fs
  have BB : Hid (BlC (floorOn x.data.toList (0, 0) fs).1 (floorOn (x ++ y).data.toList (0, 0) fs).1 (floorOn x.data.toList (0, 0) fs).2 (floorOn (x ++ y).data.toList (0, 0) fs).2 true) := Lib.hid fun w => by
    have := L.below_any (floorOn x.data.toList (0, 0) fs).1 (floorOn (x ++ y).data.toList (0, 0) fs).1 (floorOn x.data.toList (0, 0) fs).2 (floorOn (x ++ y).data.toList (0, 0) fs).2 w s1 s2
    rw [hbl] at this
    exact this
  have ck : ∀ {ok : Bool}, polOk [n0, n1, n2, n3, n4, n5] hid.data.toList us fs = ok → CkC n0 n1 n2 n3 n4 n5 hid uA fA ucap fcap us fs (if ok then 0 else 2) := fun {ok} e W h1 h2 => by
    have := check_any n0 n1 n2 n3 n4 n5 hid uA fA ucap fcap us fs W hh h1 hul huc h2 hfl hfc
    rw [e] at this
    exact this
  cases hok : polOk [n0, n1, n2, n3, n4, n5] hid.data.toList us fs with
  | false => exact flo_bad HT HU HF HAD F1 F2 BB (Lib.hid (ck hok))
  | true =>
    cases ha : fitsB n0 n1 l c with
    | false => exact flo_a HT HU HF HAD F1 F2 BB (Lib.hid (ck hok)) (Lib.hid (fits_c n0 n1 n2 n3 n4 n5 hid _ _ l c hc ha))
    | true =>
      cases hb : fitsB n0 n1 m d with
      | false => exact flo_b HT HU HF HAD F1 F2 BB (Lib.hid (ck hok)) (Lib.hid (fits_c n0 n1 n2 n3 n4 n5 hid _ _ l c hc ha)) (Lib.hid (fits_c n0 n1 n2 n3 n4 n5 hid _ _ m d hd hb))
      | true =>
        exact flo_all HT HU HF HAD F1 F2 BB (Lib.hid (ck hok)) (Lib.hid (fits_c n0 n1 n2 n3 n4 n5 hid _ _ l c hc ha)) (Lib.hid (fits_c n0 n1 n2 n3 n4 n5 hid _ _ m d hd hb))
          (Lib.hid fun w => L.refJoin_any l m c d w hc hd) (Lib.hid fun w => L.refMeet_any l m c d w hc hd)
          (Lib.hid (fits_c n0 n1 n2 n3 n4 n5 hid _ _ _ _ (L.or_small hc hd) (fits_join ha hb))) (Lib.hid (fits_c n0 n1 n2 n3 n4 n5 hid _ _ _ _ (Nat.lt_of_le_of_lt Nat.and_le_left hc) (fits_meet ha hb)))
          (Lib.hid (fits_c n0 n1 n2 n3 n4 n5 hid _ _ _ _ s1 (ok_fits hok x.data.toList))) F1
end Go.Proofs.YtadhhamfikpimaaDoor.O
