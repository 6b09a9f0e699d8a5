/-
  The law LabelLattice, walked: it returns true for every three labels, where the library's table of powers of ten holds what its text lays.
-/
import Derived.Test.YtbilhdfoajahkaaDoorLatHeld
namespace Go.Proofs.YtbilhdfoajahkaaDoor.L
open Go.RowKit
open T

set_option maxHeartbeats 16000000 in
set_option maxRecDepth 100000 in
theorem lat_law (l m n j k : Int) (c d e x y : Nat) (ab ba bc ac ca cb ra : Bool) (w : World) (HT : Hid (Tab w)) (HJ : Jn l m c d j x) (HM : Mt l m c d k y) (AA : Bw l l c c true) (AB : Bw l m c d ab) (BA : Bw m l d c ba) (BC : Bw m n d e bc) (AC : Bw l n c e ac) (AJ : Bw l j c x true) (BJ : Bw m j d x true) (JC : ac = true → bc = true → Bw j n x e true) (MA : Bw k l y c true) (MB : Bw k m y d true) (CA : Bw n l e c ca) (CB : Bw n m e d cb) (CM : ca = true → cb = true → Bw n k e y true) (RA : Rg l c ra) (ZA : ra = true → BwZ l c) (AT : ra = true → BwT l c) (heq : ab = true → ba = true → l = m ∧ c = d) (htr : ab = true → bc = true → ac = true) :
    Calls Tryd.prog 10 #[lab l c, lab m d, lab n e] w fun e w' => e = .returned (.bool true) ∧ Below w.heap.size w w' := by
  go_enter Tryd.func10, Tryd.ntmps10
  go_upto_region 1 with fail
  go_cut [7, 8] (fun s7 s8 wx => ∃ g h : Nat, s7 = .pointer (some ⟨g, 0, none⟩) ∧ s8 = .pointer (some ⟨h, 0, none⟩) ∧ Held5 w l c m d n e g j x h k y wx)
  case first =>
    clear AA AB BA BC AC AJ BJ JC MA MB CA CB CM RA ZA AT heq htr HT
    have hH := h3_start w l m n c d e
    generalize ((w.alloc (.cells #[.int .i64 l, .int .u64 (c : Int)] 40)).alloc (.cells #[.int .i64 m, .int .u64 (d : Int)] 40)).alloc (.cells #[.int .i64 n, .int .u64 (e : Int)] 40) = W at *
    refine wp_region_noPanic ?_
    refine wp_region_held_drew (S := (fun w' => w'.cell? ⟨w.heap.size, 0, none⟩ = some (.int .i64 l) ∧ w'.cell? ⟨w.heap.size, 1, none⟩ = some (.int .u64 (c : Int)) ∧ w'.cell? ⟨w.heap.size + 1, 0, none⟩ = some (.int .i64 m) ∧ w'.cell? ⟨w.heap.size + 1, 1, none⟩ = some (.int .u64 (d : Int)) ∧ w'.cell? ⟨w.heap.size + 1 + 1, 0, none⟩ = some (.int .i64 n) ∧ w'.cell? ⟨w.heap.size + 1 + 1, 1, none⟩ = some (.int .u64 (e : Int)) ∧ w.heap.size + 3 ≤ w'.heap.size ∧ Below w.heap.size w w')) (by kernel_rfl) (h3_drew hH) (fun hH0 => ?_)
    clear hH
    generalize W.drew = W0 at *
    refine wpAnyH_take (i := 0) (oi := { dst := some 9, op := Go.Op.load 40 (Go.Operand.tmp 3), type := 40, pos := "law.go:25", after := #[], guard := none }) (v := ?_) rfl (by kernel_rfl) (by kernel_rfl) (by kernel_rfl) (fun _ _ _ h => h) (Or.inl ⟨by rfl, ?_⟩) hH0 ?_
    rotate_left
    · (intro wz hSz; (try dsimp only at hSz); go_simp; try with_reducible rfl)
    simp only [Act.put, List.setIfInBounds_toArray, List.set_cons_zero, List.set_cons_succ]
    refine wpAnyH_take (i := 1) (oi := { dst := some 10, op := Go.Op.load 40 (Go.Operand.tmp 4), type := 40, pos := "law.go:25", after := #[], guard := none }) (v := ?_) rfl (by kernel_rfl) (by kernel_rfl) (by kernel_rfl) (fun _ _ _ h => h) (Or.inl ⟨by rfl, ?_⟩) hH0 ?_
    rotate_left
    · (intro wz hSz; (try dsimp only at hSz); go_simp; try with_reducible rfl)
    simp only [Act.put, List.setIfInBounds_toArray, List.set_cons_zero, List.set_cons_succ]
    refine wpAnyH_take (i := 3) (oi := { dst := some 12, op := Go.Op.load 40 (Go.Operand.tmp 3), type := 40, pos := "law.go:25", after := #[], guard := none }) (v := ?_) rfl (by kernel_rfl) (by kernel_rfl) (by kernel_rfl) (fun _ _ _ h => h) (Or.inl ⟨by rfl, ?_⟩) hH0 ?_
    rotate_left
    · (intro wz hSz; (try dsimp only at hSz); go_simp; try with_reducible rfl)
    simp only [Act.put, List.setIfInBounds_toArray, List.set_cons_zero, List.set_cons_succ]
    refine wpAnyH_take (i := 4) (oi := { dst := some 13, op := Go.Op.load 40 (Go.Operand.tmp 4), type := 40, pos := "law.go:25", after := #[], guard := none }) (v := ?_) rfl (by kernel_rfl) (by kernel_rfl) (by kernel_rfl) (fun _ _ _ h => h) (Or.inl ⟨by rfl, ?_⟩) hH0 ?_
    rotate_left
    · (intro wz hSz; (try dsimp only at hSz); go_simp; try with_reducible rfl)
    simp only [Act.put, List.setIfInBounds_toArray, List.set_cons_zero, List.set_cons_succ]
    refine wpAnyH_ready (rs := [2, 6, 7]) (by kernel_rfl) (by simp) ?_
    refine AllReadyH.cons (o := { dst := some 11, op := Go.Op.call { callee := Go.Callee.value (Go.Operand.func 36), args := #[Go.Operand.tmp 9, Go.Operand.tmp 10], argTypes := #[40, 40] }, type := 40, pos := "law.go:25", after := #[{ on := 0, ground := Go.Ground.data }, { on := 1, ground := Go.Ground.data }], guard := none }) rfl (fun K hK => ?_) (AllReadyH.cons (o := { dst := some 7, op := Go.Op.alloc 40, type := 0, pos := "law.go:25", after := #[], guard := none }) rfl (fun K hK => ?_) (AllReadyH.cons (o := { dst := some 8, op := Go.Op.alloc 40, type := 0, pos := "law.go:25", after := #[], guard := none }) rfl (fun K hK => ?_) (AllReadyH.nil)))
    · skip
      go_simp
      with_reducible refine (HJ.call _).mono ?_
      rintro r W1 ⟨rfl, hbq⟩
      go_wp2_with fail
      refine hK.out _ _ (held3_below hH0 hbq) (fun hH1 => ?_)
      clear hK K hbq hH0 
      try simp only [Act.put, List.setIfInBounds_toArray, List.set_cons_zero, List.set_cons_succ]
      refine wpAnyH_ready (rs := [5, 6, 7]) (by kernel_rfl) (by simp) ?_
      refine AllReadyH.cons (o := { dst := some 14, op := Go.Op.call { callee := Go.Callee.value (Go.Operand.func 38), args := #[Go.Operand.tmp 12, Go.Operand.tmp 13], argTypes := #[40, 40] }, type := 40, pos := "law.go:25", after := #[{ on := 3, ground := Go.Ground.data }, { on := 4, ground := Go.Ground.data }, { on := 2, ground := Go.Ground.chain }], guard := none }) rfl (fun K hK => ?_) (AllReadyH.cons (o := { dst := some 7, op := Go.Op.alloc 40, type := 0, pos := "law.go:25", after := #[], guard := none }) rfl (fun K hK => ?_) (AllReadyH.cons (o := { dst := some 8, op := Go.Op.alloc 40, type := 0, pos := "law.go:25", after := #[], guard := none }) rfl (fun K hK => ?_) (AllReadyH.nil)))
      · skip
        go_simp
        with_reducible refine (HM.call _).mono ?_
        rintro r W2 ⟨rfl, hbq⟩
        go_wp2_with fail
        refine hK.out _ _ (held3_below hH1 hbq) (fun hH2 => ?_)
        clear hK K hbq hH1 
        try simp only [Act.put, List.setIfInBounds_toArray, List.set_cons_zero, List.set_cons_succ]
        refine wpAnyH_ready (rs := [6, 7]) (by kernel_rfl) (by simp) ?_
        refine AllReadyH.cons (o := { dst := some 7, op := Go.Op.alloc 40, type := 0, pos := "law.go:25", after := #[], guard := none }) rfl (fun K hK => ?_) (AllReadyH.cons (o := { dst := some 8, op := Go.Op.alloc 40, type := 0, pos := "law.go:25", after := #[], guard := none }) rfl (fun K hK => ?_) (AllReadyH.nil))
        · skip
          go_simp
          refine hK.out _ _ (h3_alloc hH2 _) (fun hH3 => ?_)
          have HB63 := Lib.hid (heap_alloc_new W2 (.cells #[.int .i64 0, .int .u64 0] 40))
          have hz6 := h3_size hH2
          clear hK K hH2 
          generalize W2.alloc (.cells #[.int .i64 0, .int .u64 0] 40) = W3 at *
          generalize W2.heap.size = g6 at *
          try simp only [Act.put, List.setIfInBounds_toArray, List.set_cons_zero, List.set_cons_succ]
          refine wpAnyH_ready (rs := [7]) (by kernel_rfl) (by simp) ?_
          refine AllReadyH.cons (o := { dst := some 8, op := Go.Op.alloc 40, type := 0, pos := "law.go:25", after := #[], guard := none }) rfl (fun K hK => ?_) (AllReadyH.nil)
          · skip
            go_simp
            refine hK.out _ _ (h3_alloc hH3 _) (fun hH4 => ?_)
            have HB64 := Lib.hid ((Below.heap_alloc W3 (.cells #[.int .i64 0, .int .u64 0] 40) _ (blk_lt HB63.out)).trans HB63.out)
            have hne : g6 ≠ W3.heap.size := Nat.ne_of_lt (blk_lt HB63.out)
            have HB74 := Lib.hid (heap_alloc_new W3 (.cells #[.int .i64 0, .int .u64 0] 40))
            have hz7 := h3_size hH3
            clear hK K hH3 HB63
            generalize W3.alloc (.cells #[.int .i64 0, .int .u64 0] 40) = W4 at *
            generalize W3.heap.size = g7 at *
            try simp only [Act.put, List.setIfInBounds_toArray, List.set_cons_zero, List.set_cons_succ]
            refine wpAnyH_ready (rs := [8]) (by kernel_rfl) (by simp) ?_
            refine AllReadyH.cons (o := { dst := none, op := Go.Op.store 40 (Go.Operand.tmp 7) (Go.Operand.tmp 11), type := 0, pos := "law.go:25", after := #[{ on := 6, ground := Go.Ground.data }, { on := 2, ground := Go.Ground.data }, { on := 5, ground := Go.Ground.chain }, { on := 0, ground := Go.Ground.phase }, { on := 1, ground := Go.Ground.phase }, { on := 2, ground := Go.Ground.phase }, { on := 3, ground := Go.Ground.textOnly Go.Departure.lateStores }, { on := 4, ground := Go.Ground.textOnly Go.Departure.lateStores }, { on := 5, ground := Go.Ground.textOnly Go.Departure.lateStoresUnsure }, { on := 6, ground := Go.Ground.phase }, { on := 7, ground := Go.Ground.phase }], guard := none }) rfl (fun K hK => ?_) (AllReadyH.nil)
            · skip
              have c0 := (res_cells HB64.out).1
              have c1 := (res_cells HB64.out).2
              have f0 := blk_free HB64.out 0
              have f1 := blk_free HB64.out 1
              go_simp
              refine hK.out _ _ (h3_set (h3_set hH4 hz6 _) hz6 _) (fun hH5 => ?_)
              have HB65 := Lib.hid (blk_set (blk_set HB64.out 0 (.int .i64 j)) 1 (.int .u64 (x : Int)))
              have HB75 := Lib.hid ((blk_far (w := W4.setCell ⟨g6, 0, none⟩ (.int .i64 j)) (g := g7) (g' := g6) (i := 1) hne.symm (.int .u64 (x : Int))).trans ((blk_far (w := W4) (g := g7) (g' := g6) (i := 0) hne.symm (.int .i64 j)).trans HB74.out))
              clear hK K hH4 c0 c1 f0 f1 HB64 HB74
              generalize (W4.setCell ⟨g6, 0, none⟩ (.int .i64 j)).setCell ⟨g6, 1, none⟩ (.int .u64 (x : Int)) = W5 at *
              try simp only [Act.put, List.setIfInBounds_toArray, List.set_cons_zero, List.set_cons_succ]
              refine wpAnyH_ready (rs := [9]) (by kernel_rfl) (by simp) ?_
              refine AllReadyH.cons (o := { dst := none, op := Go.Op.store 40 (Go.Operand.tmp 8) (Go.Operand.tmp 14), type := 0, pos := "law.go:25", after := #[{ on := 7, ground := Go.Ground.data }, { on := 5, ground := Go.Ground.data }, { on := 8, ground := Go.Ground.chain }, { on := 0, ground := Go.Ground.phase }, { on := 1, ground := Go.Ground.phase }, { on := 2, ground := Go.Ground.phase }, { on := 3, ground := Go.Ground.phase }, { on := 4, ground := Go.Ground.phase }, { on := 5, ground := Go.Ground.phase }, { on := 6, ground := Go.Ground.phase }, { on := 7, ground := Go.Ground.phase }, { on := 8, ground := Go.Ground.phase }], guard := none }) rfl (fun K hK => ?_) (AllReadyH.nil)
              · skip
                have c0 := (res_cells HB75.out).1
                have c1 := (res_cells HB75.out).2
                have f0 := blk_free HB75.out 0
                have f1 := blk_free HB75.out 1
                go_simp
                refine hK.out _ _ (h3_set (h3_set hH5 hz7 _) hz7 _) (fun hH6 => ?_)
                have HB76 := Lib.hid (blk_set (blk_set HB75.out 0 (.int .i64 k)) 1 (.int .u64 (y : Int)))
                have HB66 := Lib.hid ((blk_far (w := W5.setCell ⟨g7, 0, none⟩ (.int .i64 k)) (g := g6) (g' := g7) (i := 1) hne (.int .u64 (y : Int))).trans ((blk_far (w := W5) (g := g6) (g' := g7) (i := 0) hne (.int .i64 k)).trans HB65.out))
                clear hK K hH5 c0 c1 f0 f1 HB75 HB65
                generalize (W5.setCell ⟨g7, 0, none⟩ (.int .i64 k)).setCell ⟨g7, 1, none⟩ (.int .u64 (y : Int)) = W6 at *
                try simp only [Act.put, List.setIfInBounds_toArray, List.set_cons_zero, List.set_cons_succ]
                refine wpAnyH_done (by kernel_rfl) ?_ _
                refine NoPanic.normal ?_
                go_wp2_with fail
                go_meet
                exact ⟨g6, g7, rfl, rfl, h5_mk hH6 HB66.out HB76.out⟩
        · skip
          go_simp
          refine hK.out _ _ (h3_alloc hH2 _) (fun hH3 => ?_)
          have HB73 := Lib.hid (heap_alloc_new W2 (.cells #[.int .i64 0, .int .u64 0] 40))
          have hz7 := h3_size hH2
          clear hK K hH2 
          generalize W2.alloc (.cells #[.int .i64 0, .int .u64 0] 40) = W3 at *
          generalize W2.heap.size = g7 at *
          try simp only [Act.put, List.setIfInBounds_toArray, List.set_cons_zero, List.set_cons_succ]
          refine wpAnyH_ready (rs := [6]) (by kernel_rfl) (by simp) ?_
          refine AllReadyH.cons (o := { dst := some 7, op := Go.Op.alloc 40, type := 0, pos := "law.go:25", after := #[], guard := none }) rfl (fun K hK => ?_) (AllReadyH.nil)
          · skip
            go_simp
            refine hK.out _ _ (h3_alloc hH3 _) (fun hH4 => ?_)
            have HB74 := Lib.hid ((Below.heap_alloc W3 (.cells #[.int .i64 0, .int .u64 0] 40) _ (blk_lt HB73.out)).trans HB73.out)
            have hne : g7 ≠ W3.heap.size := Nat.ne_of_lt (blk_lt HB73.out)
            have HB64 := Lib.hid (heap_alloc_new W3 (.cells #[.int .i64 0, .int .u64 0] 40))
            have hz6 := h3_size hH3
            clear hK K hH3 HB73
            generalize W3.alloc (.cells #[.int .i64 0, .int .u64 0] 40) = W4 at *
            generalize W3.heap.size = g6 at *
            try simp only [Act.put, List.setIfInBounds_toArray, List.set_cons_zero, List.set_cons_succ]
            refine wpAnyH_ready (rs := [8]) (by kernel_rfl) (by simp) ?_
            refine AllReadyH.cons (o := { dst := none, op := Go.Op.store 40 (Go.Operand.tmp 7) (Go.Operand.tmp 11), type := 0, pos := "law.go:25", after := #[{ on := 6, ground := Go.Ground.data }, { on := 2, ground := Go.Ground.data }, { on := 5, ground := Go.Ground.chain }, { on := 0, ground := Go.Ground.phase }, { on := 1, ground := Go.Ground.phase }, { on := 2, ground := Go.Ground.phase }, { on := 3, ground := Go.Ground.textOnly Go.Departure.lateStores }, { on := 4, ground := Go.Ground.textOnly Go.Departure.lateStores }, { on := 5, ground := Go.Ground.textOnly Go.Departure.lateStoresUnsure }, { on := 6, ground := Go.Ground.phase }, { on := 7, ground := Go.Ground.phase }], guard := none }) rfl (fun K hK => ?_) (AllReadyH.nil)
            · skip
              have c0 := (res_cells HB64.out).1
              have c1 := (res_cells HB64.out).2
              have f0 := blk_free HB64.out 0
              have f1 := blk_free HB64.out 1
              go_simp
              refine hK.out _ _ (h3_set (h3_set hH4 hz6 _) hz6 _) (fun hH5 => ?_)
              have HB65 := Lib.hid (blk_set (blk_set HB64.out 0 (.int .i64 j)) 1 (.int .u64 (x : Int)))
              have HB75 := Lib.hid ((blk_far (w := W4.setCell ⟨g6, 0, none⟩ (.int .i64 j)) (g := g7) (g' := g6) (i := 1) hne (.int .u64 (x : Int))).trans ((blk_far (w := W4) (g := g7) (g' := g6) (i := 0) hne (.int .i64 j)).trans HB74.out))
              clear hK K hH4 c0 c1 f0 f1 HB64 HB74
              generalize (W4.setCell ⟨g6, 0, none⟩ (.int .i64 j)).setCell ⟨g6, 1, none⟩ (.int .u64 (x : Int)) = W5 at *
              try simp only [Act.put, List.setIfInBounds_toArray, List.set_cons_zero, List.set_cons_succ]
              refine wpAnyH_ready (rs := [9]) (by kernel_rfl) (by simp) ?_
              refine AllReadyH.cons (o := { dst := none, op := Go.Op.store 40 (Go.Operand.tmp 8) (Go.Operand.tmp 14), type := 0, pos := "law.go:25", after := #[{ on := 7, ground := Go.Ground.data }, { on := 5, ground := Go.Ground.data }, { on := 8, ground := Go.Ground.chain }, { on := 0, ground := Go.Ground.phase }, { on := 1, ground := Go.Ground.phase }, { on := 2, ground := Go.Ground.phase }, { on := 3, ground := Go.Ground.phase }, { on := 4, ground := Go.Ground.phase }, { on := 5, ground := Go.Ground.phase }, { on := 6, ground := Go.Ground.phase }, { on := 7, ground := Go.Ground.phase }, { on := 8, ground := Go.Ground.phase }], guard := none }) rfl (fun K hK => ?_) (AllReadyH.nil)
              · skip
                have c0 := (res_cells HB75.out).1
                have c1 := (res_cells HB75.out).2
                have f0 := blk_free HB75.out 0
                have f1 := blk_free HB75.out 1
                go_simp
                refine hK.out _ _ (h3_set (h3_set hH5 hz7 _) hz7 _) (fun hH6 => ?_)
                have HB76 := Lib.hid (blk_set (blk_set HB75.out 0 (.int .i64 k)) 1 (.int .u64 (y : Int)))
                have HB66 := Lib.hid ((blk_far (w := W5.setCell ⟨g7, 0, none⟩ (.int .i64 k)) (g := g6) (g' := g7) (i := 1) hne.symm (.int .u64 (y : Int))).trans ((blk_far (w := W5) (g := g6) (g' := g7) (i := 0) hne.symm (.int .i64 k)).trans HB65.out))
                clear hK K hH5 c0 c1 f0 f1 HB75 HB65
                generalize (W5.setCell ⟨g7, 0, none⟩ (.int .i64 k)).setCell ⟨g7, 1, none⟩ (.int .u64 (y : Int)) = W6 at *
                try simp only [Act.put, List.setIfInBounds_toArray, List.set_cons_zero, List.set_cons_succ]
                refine wpAnyH_done (by kernel_rfl) ?_ _
                refine NoPanic.normal ?_
                go_wp2_with fail
                go_meet
                exact ⟨g6, g7, rfl, rfl, h5_mk hH6 HB66.out HB76.out⟩
      · skip
        go_simp
        refine hK.out _ _ (h3_alloc hH1 _) (fun hH2 => ?_)
        have HB62 := Lib.hid (heap_alloc_new W1 (.cells #[.int .i64 0, .int .u64 0] 40))
        have hz6 := h3_size hH1
        clear hK K hH1 
        generalize W1.alloc (.cells #[.int .i64 0, .int .u64 0] 40) = W2 at *
        generalize W1.heap.size = g6 at *
        try simp only [Act.put, List.setIfInBounds_toArray, List.set_cons_zero, List.set_cons_succ]
        refine wpAnyH_ready (rs := [5, 7]) (by kernel_rfl) (by simp) ?_
        refine AllReadyH.cons (o := { dst := some 14, op := Go.Op.call { callee := Go.Callee.value (Go.Operand.func 38), args := #[Go.Operand.tmp 12, Go.Operand.tmp 13], argTypes := #[40, 40] }, type := 40, pos := "law.go:25", after := #[{ on := 3, ground := Go.Ground.data }, { on := 4, ground := Go.Ground.data }, { on := 2, ground := Go.Ground.chain }], guard := none }) rfl (fun K hK => ?_) (AllReadyH.cons (o := { dst := some 8, op := Go.Op.alloc 40, type := 0, pos := "law.go:25", after := #[], guard := none }) rfl (fun K hK => ?_) (AllReadyH.nil))
        · skip
          go_simp
          with_reducible refine (HM.call _).mono ?_
          rintro r W3 ⟨rfl, hbq⟩
          go_wp2_with fail
          refine hK.out _ _ (held3_below hH2 hbq) (fun hH3 => ?_)
          have HB63 := Lib.hid ((hbq.block _ (blk_lt HB62.out)).trans HB62.out)
          clear hK K hbq hH2 HB62
          try simp only [Act.put, List.setIfInBounds_toArray, List.set_cons_zero, List.set_cons_succ]
          refine wpAnyH_ready (rs := [7]) (by kernel_rfl) (by simp) ?_
          refine AllReadyH.cons (o := { dst := some 8, op := Go.Op.alloc 40, type := 0, pos := "law.go:25", after := #[], guard := none }) rfl (fun K hK => ?_) (AllReadyH.nil)
          · skip
            go_simp
            refine hK.out _ _ (h3_alloc hH3 _) (fun hH4 => ?_)
            have HB64 := Lib.hid ((Below.heap_alloc W3 (.cells #[.int .i64 0, .int .u64 0] 40) _ (blk_lt HB63.out)).trans HB63.out)
            have hne : g6 ≠ W3.heap.size := Nat.ne_of_lt (blk_lt HB63.out)
            have HB74 := Lib.hid (heap_alloc_new W3 (.cells #[.int .i64 0, .int .u64 0] 40))
            have hz7 := h3_size hH3
            clear hK K hH3 HB63
            generalize W3.alloc (.cells #[.int .i64 0, .int .u64 0] 40) = W4 at *
            generalize W3.heap.size = g7 at *
            try simp only [Act.put, List.setIfInBounds_toArray, List.set_cons_zero, List.set_cons_succ]
            refine wpAnyH_ready (rs := [8]) (by kernel_rfl) (by simp) ?_
            refine AllReadyH.cons (o := { dst := none, op := Go.Op.store 40 (Go.Operand.tmp 7) (Go.Operand.tmp 11), type := 0, pos := "law.go:25", after := #[{ on := 6, ground := Go.Ground.data }, { on := 2, ground := Go.Ground.data }, { on := 5, ground := Go.Ground.chain }, { on := 0, ground := Go.Ground.phase }, { on := 1, ground := Go.Ground.phase }, { on := 2, ground := Go.Ground.phase }, { on := 3, ground := Go.Ground.textOnly Go.Departure.lateStores }, { on := 4, ground := Go.Ground.textOnly Go.Departure.lateStores }, { on := 5, ground := Go.Ground.textOnly Go.Departure.lateStoresUnsure }, { on := 6, ground := Go.Ground.phase }, { on := 7, ground := Go.Ground.phase }], guard := none }) rfl (fun K hK => ?_) (AllReadyH.nil)
            · skip
              have c0 := (res_cells HB64.out).1
              have c1 := (res_cells HB64.out).2
              have f0 := blk_free HB64.out 0
              have f1 := blk_free HB64.out 1
              go_simp
              refine hK.out _ _ (h3_set (h3_set hH4 hz6 _) hz6 _) (fun hH5 => ?_)
              have HB65 := Lib.hid (blk_set (blk_set HB64.out 0 (.int .i64 j)) 1 (.int .u64 (x : Int)))
              have HB75 := Lib.hid ((blk_far (w := W4.setCell ⟨g6, 0, none⟩ (.int .i64 j)) (g := g7) (g' := g6) (i := 1) hne.symm (.int .u64 (x : Int))).trans ((blk_far (w := W4) (g := g7) (g' := g6) (i := 0) hne.symm (.int .i64 j)).trans HB74.out))
              clear hK K hH4 c0 c1 f0 f1 HB64 HB74
              generalize (W4.setCell ⟨g6, 0, none⟩ (.int .i64 j)).setCell ⟨g6, 1, none⟩ (.int .u64 (x : Int)) = W5 at *
              try simp only [Act.put, List.setIfInBounds_toArray, List.set_cons_zero, List.set_cons_succ]
              refine wpAnyH_ready (rs := [9]) (by kernel_rfl) (by simp) ?_
              refine AllReadyH.cons (o := { dst := none, op := Go.Op.store 40 (Go.Operand.tmp 8) (Go.Operand.tmp 14), type := 0, pos := "law.go:25", after := #[{ on := 7, ground := Go.Ground.data }, { on := 5, ground := Go.Ground.data }, { on := 8, ground := Go.Ground.chain }, { on := 0, ground := Go.Ground.phase }, { on := 1, ground := Go.Ground.phase }, { on := 2, ground := Go.Ground.phase }, { on := 3, ground := Go.Ground.phase }, { on := 4, ground := Go.Ground.phase }, { on := 5, ground := Go.Ground.phase }, { on := 6, ground := Go.Ground.phase }, { on := 7, ground := Go.Ground.phase }, { on := 8, ground := Go.Ground.phase }], guard := none }) rfl (fun K hK => ?_) (AllReadyH.nil)
              · skip
                have c0 := (res_cells HB75.out).1
                have c1 := (res_cells HB75.out).2
                have f0 := blk_free HB75.out 0
                have f1 := blk_free HB75.out 1
                go_simp
                refine hK.out _ _ (h3_set (h3_set hH5 hz7 _) hz7 _) (fun hH6 => ?_)
                have HB76 := Lib.hid (blk_set (blk_set HB75.out 0 (.int .i64 k)) 1 (.int .u64 (y : Int)))
                have HB66 := Lib.hid ((blk_far (w := W5.setCell ⟨g7, 0, none⟩ (.int .i64 k)) (g := g6) (g' := g7) (i := 1) hne (.int .u64 (y : Int))).trans ((blk_far (w := W5) (g := g6) (g' := g7) (i := 0) hne (.int .i64 k)).trans HB65.out))
                clear hK K hH5 c0 c1 f0 f1 HB75 HB65
                generalize (W5.setCell ⟨g7, 0, none⟩ (.int .i64 k)).setCell ⟨g7, 1, none⟩ (.int .u64 (y : Int)) = W6 at *
                try simp only [Act.put, List.setIfInBounds_toArray, List.set_cons_zero, List.set_cons_succ]
                refine wpAnyH_done (by kernel_rfl) ?_ _
                refine NoPanic.normal ?_
                go_wp2_with fail
                go_meet
                exact ⟨g6, g7, rfl, rfl, h5_mk hH6 HB66.out HB76.out⟩
        · skip
          go_simp
          refine hK.out _ _ (h3_alloc hH2 _) (fun hH3 => ?_)
          have HB63 := Lib.hid ((Below.heap_alloc W2 (.cells #[.int .i64 0, .int .u64 0] 40) _ (blk_lt HB62.out)).trans HB62.out)
          have hne : g6 ≠ W2.heap.size := Nat.ne_of_lt (blk_lt HB62.out)
          have HB73 := Lib.hid (heap_alloc_new W2 (.cells #[.int .i64 0, .int .u64 0] 40))
          have hz7 := h3_size hH2
          clear hK K hH2 HB62
          generalize W2.alloc (.cells #[.int .i64 0, .int .u64 0] 40) = W3 at *
          generalize W2.heap.size = g7 at *
          try simp only [Act.put, List.setIfInBounds_toArray, List.set_cons_zero, List.set_cons_succ]
          refine wpAnyH_ready (rs := [5]) (by kernel_rfl) (by simp) ?_
          refine AllReadyH.cons (o := { dst := some 14, op := Go.Op.call { callee := Go.Callee.value (Go.Operand.func 38), args := #[Go.Operand.tmp 12, Go.Operand.tmp 13], argTypes := #[40, 40] }, type := 40, pos := "law.go:25", after := #[{ on := 3, ground := Go.Ground.data }, { on := 4, ground := Go.Ground.data }, { on := 2, ground := Go.Ground.chain }], guard := none }) rfl (fun K hK => ?_) (AllReadyH.nil)
          · skip
            go_simp
            with_reducible refine (HM.call _).mono ?_
            rintro r W4 ⟨rfl, hbq⟩
            go_wp2_with fail
            refine hK.out _ _ (held3_below hH3 hbq) (fun hH4 => ?_)
            have HB64 := Lib.hid ((hbq.block _ (blk_lt HB63.out)).trans HB63.out)
            have HB74 := Lib.hid ((hbq.block _ (blk_lt HB73.out)).trans HB73.out)
            clear hK K hbq hH3 HB63 HB73
            try simp only [Act.put, List.setIfInBounds_toArray, List.set_cons_zero, List.set_cons_succ]
            refine wpAnyH_ready (rs := [8]) (by kernel_rfl) (by simp) ?_
            refine AllReadyH.cons (o := { dst := none, op := Go.Op.store 40 (Go.Operand.tmp 7) (Go.Operand.tmp 11), type := 0, pos := "law.go:25", after := #[{ on := 6, ground := Go.Ground.data }, { on := 2, ground := Go.Ground.data }, { on := 5, ground := Go.Ground.chain }, { on := 0, ground := Go.Ground.phase }, { on := 1, ground := Go.Ground.phase }, { on := 2, ground := Go.Ground.phase }, { on := 3, ground := Go.Ground.textOnly Go.Departure.lateStores }, { on := 4, ground := Go.Ground.textOnly Go.Departure.lateStores }, { on := 5, ground := Go.Ground.textOnly Go.Departure.lateStoresUnsure }, { on := 6, ground := Go.Ground.phase }, { on := 7, ground := Go.Ground.phase }], guard := none }) rfl (fun K hK => ?_) (AllReadyH.nil)
            · skip
              have c0 := (res_cells HB64.out).1
              have c1 := (res_cells HB64.out).2
              have f0 := blk_free HB64.out 0
              have f1 := blk_free HB64.out 1
              go_simp
              refine hK.out _ _ (h3_set (h3_set hH4 hz6 _) hz6 _) (fun hH5 => ?_)
              have HB65 := Lib.hid (blk_set (blk_set HB64.out 0 (.int .i64 j)) 1 (.int .u64 (x : Int)))
              have HB75 := Lib.hid ((blk_far (w := W4.setCell ⟨g6, 0, none⟩ (.int .i64 j)) (g := g7) (g' := g6) (i := 1) hne.symm (.int .u64 (x : Int))).trans ((blk_far (w := W4) (g := g7) (g' := g6) (i := 0) hne.symm (.int .i64 j)).trans HB74.out))
              clear hK K hH4 c0 c1 f0 f1 HB64 HB74
              generalize (W4.setCell ⟨g6, 0, none⟩ (.int .i64 j)).setCell ⟨g6, 1, none⟩ (.int .u64 (x : Int)) = W5 at *
              try simp only [Act.put, List.setIfInBounds_toArray, List.set_cons_zero, List.set_cons_succ]
              refine wpAnyH_ready (rs := [9]) (by kernel_rfl) (by simp) ?_
              refine AllReadyH.cons (o := { dst := none, op := Go.Op.store 40 (Go.Operand.tmp 8) (Go.Operand.tmp 14), type := 0, pos := "law.go:25", after := #[{ on := 7, ground := Go.Ground.data }, { on := 5, ground := Go.Ground.data }, { on := 8, ground := Go.Ground.chain }, { on := 0, ground := Go.Ground.phase }, { on := 1, ground := Go.Ground.phase }, { on := 2, ground := Go.Ground.phase }, { on := 3, ground := Go.Ground.phase }, { on := 4, ground := Go.Ground.phase }, { on := 5, ground := Go.Ground.phase }, { on := 6, ground := Go.Ground.phase }, { on := 7, ground := Go.Ground.phase }, { on := 8, ground := Go.Ground.phase }], guard := none }) rfl (fun K hK => ?_) (AllReadyH.nil)
              · skip
                have c0 := (res_cells HB75.out).1
                have c1 := (res_cells HB75.out).2
                have f0 := blk_free HB75.out 0
                have f1 := blk_free HB75.out 1
                go_simp
                refine hK.out _ _ (h3_set (h3_set hH5 hz7 _) hz7 _) (fun hH6 => ?_)
                have HB76 := Lib.hid (blk_set (blk_set HB75.out 0 (.int .i64 k)) 1 (.int .u64 (y : Int)))
                have HB66 := Lib.hid ((blk_far (w := W5.setCell ⟨g7, 0, none⟩ (.int .i64 k)) (g := g6) (g' := g7) (i := 1) hne (.int .u64 (y : Int))).trans ((blk_far (w := W5) (g := g6) (g' := g7) (i := 0) hne (.int .i64 k)).trans HB65.out))
                clear hK K hH5 c0 c1 f0 f1 HB75 HB65
                generalize (W5.setCell ⟨g7, 0, none⟩ (.int .i64 k)).setCell ⟨g7, 1, none⟩ (.int .u64 (y : Int)) = W6 at *
                try simp only [Act.put, List.setIfInBounds_toArray, List.set_cons_zero, List.set_cons_succ]
                refine wpAnyH_done (by kernel_rfl) ?_ _
                refine NoPanic.normal ?_
                go_wp2_with fail
                go_meet
                exact ⟨g6, g7, rfl, rfl, h5_mk hH6 HB66.out HB76.out⟩
      · skip
        go_simp
        refine hK.out _ _ (h3_alloc hH1 _) (fun hH2 => ?_)
        have HB72 := Lib.hid (heap_alloc_new W1 (.cells #[.int .i64 0, .int .u64 0] 40))
        have hz7 := h3_size hH1
        clear hK K hH1 
        generalize W1.alloc (.cells #[.int .i64 0, .int .u64 0] 40) = W2 at *
        generalize W1.heap.size = g7 at *
        try simp only [Act.put, List.setIfInBounds_toArray, List.set_cons_zero, List.set_cons_succ]
        refine wpAnyH_ready (rs := [5, 6]) (by kernel_rfl) (by simp) ?_
        refine AllReadyH.cons (o := { dst := some 14, op := Go.Op.call { callee := Go.Callee.value (Go.Operand.func 38), args := #[Go.Operand.tmp 12, Go.Operand.tmp 13], argTypes := #[40, 40] }, type := 40, pos := "law.go:25", after := #[{ on := 3, ground := Go.Ground.data }, { on := 4, ground := Go.Ground.data }, { on := 2, ground := Go.Ground.chain }], guard := none }) rfl (fun K hK => ?_) (AllReadyH.cons (o := { dst := some 7, op := Go.Op.alloc 40, type := 0, pos := "law.go:25", after := #[], guard := none }) rfl (fun K hK => ?_) (AllReadyH.nil))
        · skip
          go_simp
          with_reducible refine (HM.call _).mono ?_
          rintro r W3 ⟨rfl, hbq⟩
          go_wp2_with fail
          refine hK.out _ _ (held3_below hH2 hbq) (fun hH3 => ?_)
          have HB73 := Lib.hid ((hbq.block _ (blk_lt HB72.out)).trans HB72.out)
          clear hK K hbq hH2 HB72
          try simp only [Act.put, List.setIfInBounds_toArray, List.set_cons_zero, List.set_cons_succ]
          refine wpAnyH_ready (rs := [6]) (by kernel_rfl) (by simp) ?_
          refine AllReadyH.cons (o := { dst := some 7, op := Go.Op.alloc 40, type := 0, pos := "law.go:25", after := #[], guard := none }) rfl (fun K hK => ?_) (AllReadyH.nil)
          · skip
            go_simp
            refine hK.out _ _ (h3_alloc hH3 _) (fun hH4 => ?_)
            have HB74 := Lib.hid ((Below.heap_alloc W3 (.cells #[.int .i64 0, .int .u64 0] 40) _ (blk_lt HB73.out)).trans HB73.out)
            have hne : g7 ≠ W3.heap.size := Nat.ne_of_lt (blk_lt HB73.out)
            have HB64 := Lib.hid (heap_alloc_new W3 (.cells #[.int .i64 0, .int .u64 0] 40))
            have hz6 := h3_size hH3
            clear hK K hH3 HB73
            generalize W3.alloc (.cells #[.int .i64 0, .int .u64 0] 40) = W4 at *
            generalize W3.heap.size = g6 at *
            try simp only [Act.put, List.setIfInBounds_toArray, List.set_cons_zero, List.set_cons_succ]
            refine wpAnyH_ready (rs := [8]) (by kernel_rfl) (by simp) ?_
            refine AllReadyH.cons (o := { dst := none, op := Go.Op.store 40 (Go.Operand.tmp 7) (Go.Operand.tmp 11), type := 0, pos := "law.go:25", after := #[{ on := 6, ground := Go.Ground.data }, { on := 2, ground := Go.Ground.data }, { on := 5, ground := Go.Ground.chain }, { on := 0, ground := Go.Ground.phase }, { on := 1, ground := Go.Ground.phase }, { on := 2, ground := Go.Ground.phase }, { on := 3, ground := Go.Ground.textOnly Go.Departure.lateStores }, { on := 4, ground := Go.Ground.textOnly Go.Departure.lateStores }, { on := 5, ground := Go.Ground.textOnly Go.Departure.lateStoresUnsure }, { on := 6, ground := Go.Ground.phase }, { on := 7, ground := Go.Ground.phase }], guard := none }) rfl (fun K hK => ?_) (AllReadyH.nil)
            · skip
              have c0 := (res_cells HB64.out).1
              have c1 := (res_cells HB64.out).2
              have f0 := blk_free HB64.out 0
              have f1 := blk_free HB64.out 1
              go_simp
              refine hK.out _ _ (h3_set (h3_set hH4 hz6 _) hz6 _) (fun hH5 => ?_)
              have HB65 := Lib.hid (blk_set (blk_set HB64.out 0 (.int .i64 j)) 1 (.int .u64 (x : Int)))
              have HB75 := Lib.hid ((blk_far (w := W4.setCell ⟨g6, 0, none⟩ (.int .i64 j)) (g := g7) (g' := g6) (i := 1) hne (.int .u64 (x : Int))).trans ((blk_far (w := W4) (g := g7) (g' := g6) (i := 0) hne (.int .i64 j)).trans HB74.out))
              clear hK K hH4 c0 c1 f0 f1 HB64 HB74
              generalize (W4.setCell ⟨g6, 0, none⟩ (.int .i64 j)).setCell ⟨g6, 1, none⟩ (.int .u64 (x : Int)) = W5 at *
              try simp only [Act.put, List.setIfInBounds_toArray, List.set_cons_zero, List.set_cons_succ]
              refine wpAnyH_ready (rs := [9]) (by kernel_rfl) (by simp) ?_
              refine AllReadyH.cons (o := { dst := none, op := Go.Op.store 40 (Go.Operand.tmp 8) (Go.Operand.tmp 14), type := 0, pos := "law.go:25", after := #[{ on := 7, ground := Go.Ground.data }, { on := 5, ground := Go.Ground.data }, { on := 8, ground := Go.Ground.chain }, { on := 0, ground := Go.Ground.phase }, { on := 1, ground := Go.Ground.phase }, { on := 2, ground := Go.Ground.phase }, { on := 3, ground := Go.Ground.phase }, { on := 4, ground := Go.Ground.phase }, { on := 5, ground := Go.Ground.phase }, { on := 6, ground := Go.Ground.phase }, { on := 7, ground := Go.Ground.phase }, { on := 8, ground := Go.Ground.phase }], guard := none }) rfl (fun K hK => ?_) (AllReadyH.nil)
              · skip
                have c0 := (res_cells HB75.out).1
                have c1 := (res_cells HB75.out).2
                have f0 := blk_free HB75.out 0
                have f1 := blk_free HB75.out 1
                go_simp
                refine hK.out _ _ (h3_set (h3_set hH5 hz7 _) hz7 _) (fun hH6 => ?_)
                have HB76 := Lib.hid (blk_set (blk_set HB75.out 0 (.int .i64 k)) 1 (.int .u64 (y : Int)))
                have HB66 := Lib.hid ((blk_far (w := W5.setCell ⟨g7, 0, none⟩ (.int .i64 k)) (g := g6) (g' := g7) (i := 1) hne.symm (.int .u64 (y : Int))).trans ((blk_far (w := W5) (g := g6) (g' := g7) (i := 0) hne.symm (.int .i64 k)).trans HB65.out))
                clear hK K hH5 c0 c1 f0 f1 HB75 HB65
                generalize (W5.setCell ⟨g7, 0, none⟩ (.int .i64 k)).setCell ⟨g7, 1, none⟩ (.int .u64 (y : Int)) = W6 at *
                try simp only [Act.put, List.setIfInBounds_toArray, List.set_cons_zero, List.set_cons_succ]
                refine wpAnyH_done (by kernel_rfl) ?_ _
                refine NoPanic.normal ?_
                go_wp2_with fail
                go_meet
                exact ⟨g6, g7, rfl, rfl, h5_mk hH6 HB66.out HB76.out⟩
        · skip
          go_simp
          refine hK.out _ _ (h3_alloc hH2 _) (fun hH3 => ?_)
          have HB73 := Lib.hid ((Below.heap_alloc W2 (.cells #[.int .i64 0, .int .u64 0] 40) _ (blk_lt HB72.out)).trans HB72.out)
          have hne : g7 ≠ W2.heap.size := Nat.ne_of_lt (blk_lt HB72.out)
          have HB63 := Lib.hid (heap_alloc_new W2 (.cells #[.int .i64 0, .int .u64 0] 40))
          have hz6 := h3_size hH2
          clear hK K hH2 HB72
          generalize W2.alloc (.cells #[.int .i64 0, .int .u64 0] 40) = W3 at *
          generalize W2.heap.size = g6 at *
          try simp only [Act.put, List.setIfInBounds_toArray, List.set_cons_zero, List.set_cons_succ]
          refine wpAnyH_ready (rs := [5]) (by kernel_rfl) (by simp) ?_
          refine AllReadyH.cons (o := { dst := some 14, op := Go.Op.call { callee := Go.Callee.value (Go.Operand.func 38), args := #[Go.Operand.tmp 12, Go.Operand.tmp 13], argTypes := #[40, 40] }, type := 40, pos := "law.go:25", after := #[{ on := 3, ground := Go.Ground.data }, { on := 4, ground := Go.Ground.data }, { on := 2, ground := Go.Ground.chain }], guard := none }) rfl (fun K hK => ?_) (AllReadyH.nil)
          · skip
            go_simp
            with_reducible refine (HM.call _).mono ?_
            rintro r W4 ⟨rfl, hbq⟩
            go_wp2_with fail
            refine hK.out _ _ (held3_below hH3 hbq) (fun hH4 => ?_)
            have HB74 := Lib.hid ((hbq.block _ (blk_lt HB73.out)).trans HB73.out)
            have HB64 := Lib.hid ((hbq.block _ (blk_lt HB63.out)).trans HB63.out)
            clear hK K hbq hH3 HB73 HB63
            try simp only [Act.put, List.setIfInBounds_toArray, List.set_cons_zero, List.set_cons_succ]
            refine wpAnyH_ready (rs := [8]) (by kernel_rfl) (by simp) ?_
            refine AllReadyH.cons (o := { dst := none, op := Go.Op.store 40 (Go.Operand.tmp 7) (Go.Operand.tmp 11), type := 0, pos := "law.go:25", after := #[{ on := 6, ground := Go.Ground.data }, { on := 2, ground := Go.Ground.data }, { on := 5, ground := Go.Ground.chain }, { on := 0, ground := Go.Ground.phase }, { on := 1, ground := Go.Ground.phase }, { on := 2, ground := Go.Ground.phase }, { on := 3, ground := Go.Ground.textOnly Go.Departure.lateStores }, { on := 4, ground := Go.Ground.textOnly Go.Departure.lateStores }, { on := 5, ground := Go.Ground.textOnly Go.Departure.lateStoresUnsure }, { on := 6, ground := Go.Ground.phase }, { on := 7, ground := Go.Ground.phase }], guard := none }) rfl (fun K hK => ?_) (AllReadyH.nil)
            · skip
              have c0 := (res_cells HB64.out).1
              have c1 := (res_cells HB64.out).2
              have f0 := blk_free HB64.out 0
              have f1 := blk_free HB64.out 1
              go_simp
              refine hK.out _ _ (h3_set (h3_set hH4 hz6 _) hz6 _) (fun hH5 => ?_)
              have HB65 := Lib.hid (blk_set (blk_set HB64.out 0 (.int .i64 j)) 1 (.int .u64 (x : Int)))
              have HB75 := Lib.hid ((blk_far (w := W4.setCell ⟨g6, 0, none⟩ (.int .i64 j)) (g := g7) (g' := g6) (i := 1) hne (.int .u64 (x : Int))).trans ((blk_far (w := W4) (g := g7) (g' := g6) (i := 0) hne (.int .i64 j)).trans HB74.out))
              clear hK K hH4 c0 c1 f0 f1 HB64 HB74
              generalize (W4.setCell ⟨g6, 0, none⟩ (.int .i64 j)).setCell ⟨g6, 1, none⟩ (.int .u64 (x : Int)) = W5 at *
              try simp only [Act.put, List.setIfInBounds_toArray, List.set_cons_zero, List.set_cons_succ]
              refine wpAnyH_ready (rs := [9]) (by kernel_rfl) (by simp) ?_
              refine AllReadyH.cons (o := { dst := none, op := Go.Op.store 40 (Go.Operand.tmp 8) (Go.Operand.tmp 14), type := 0, pos := "law.go:25", after := #[{ on := 7, ground := Go.Ground.data }, { on := 5, ground := Go.Ground.data }, { on := 8, ground := Go.Ground.chain }, { on := 0, ground := Go.Ground.phase }, { on := 1, ground := Go.Ground.phase }, { on := 2, ground := Go.Ground.phase }, { on := 3, ground := Go.Ground.phase }, { on := 4, ground := Go.Ground.phase }, { on := 5, ground := Go.Ground.phase }, { on := 6, ground := Go.Ground.phase }, { on := 7, ground := Go.Ground.phase }, { on := 8, ground := Go.Ground.phase }], guard := none }) rfl (fun K hK => ?_) (AllReadyH.nil)
              · skip
                have c0 := (res_cells HB75.out).1
                have c1 := (res_cells HB75.out).2
                have f0 := blk_free HB75.out 0
                have f1 := blk_free HB75.out 1
                go_simp
                refine hK.out _ _ (h3_set (h3_set hH5 hz7 _) hz7 _) (fun hH6 => ?_)
                have HB76 := Lib.hid (blk_set (blk_set HB75.out 0 (.int .i64 k)) 1 (.int .u64 (y : Int)))
                have HB66 := Lib.hid ((blk_far (w := W5.setCell ⟨g7, 0, none⟩ (.int .i64 k)) (g := g6) (g' := g7) (i := 1) hne.symm (.int .u64 (y : Int))).trans ((blk_far (w := W5) (g := g6) (g' := g7) (i := 0) hne.symm (.int .i64 k)).trans HB65.out))
                clear hK K hH5 c0 c1 f0 f1 HB75 HB65
                generalize (W5.setCell ⟨g7, 0, none⟩ (.int .i64 k)).setCell ⟨g7, 1, none⟩ (.int .u64 (y : Int)) = W6 at *
                try simp only [Act.put, List.setIfInBounds_toArray, List.set_cons_zero, List.set_cons_succ]
                refine wpAnyH_done (by kernel_rfl) ?_ _
                refine NoPanic.normal ?_
                go_wp2_with fail
                go_meet
                exact ⟨g6, g7, rfl, rfl, h5_mk hH6 HB66.out HB76.out⟩
    · skip
      go_simp
      refine hK.out _ _ (h3_alloc hH0 _) (fun hH1 => ?_)
      have HB61 := Lib.hid (heap_alloc_new W0 (.cells #[.int .i64 0, .int .u64 0] 40))
      have hz6 := h3_size hH0
      clear hK K hH0 
      generalize W0.alloc (.cells #[.int .i64 0, .int .u64 0] 40) = W1 at *
      generalize W0.heap.size = g6 at *
      try simp only [Act.put, List.setIfInBounds_toArray, List.set_cons_zero, List.set_cons_succ]
      refine wpAnyH_ready (rs := [2, 7]) (by kernel_rfl) (by simp) ?_
      refine AllReadyH.cons (o := { dst := some 11, op := Go.Op.call { callee := Go.Callee.value (Go.Operand.func 36), args := #[Go.Operand.tmp 9, Go.Operand.tmp 10], argTypes := #[40, 40] }, type := 40, pos := "law.go:25", after := #[{ on := 0, ground := Go.Ground.data }, { on := 1, ground := Go.Ground.data }], guard := none }) rfl (fun K hK => ?_) (AllReadyH.cons (o := { dst := some 8, op := Go.Op.alloc 40, type := 0, pos := "law.go:25", after := #[], guard := none }) rfl (fun K hK => ?_) (AllReadyH.nil))
      · skip
        go_simp
        with_reducible refine (HJ.call _).mono ?_
        rintro r W2 ⟨rfl, hbq⟩
        go_wp2_with fail
        refine hK.out _ _ (held3_below hH1 hbq) (fun hH2 => ?_)
        have HB62 := Lib.hid ((hbq.block _ (blk_lt HB61.out)).trans HB61.out)
        clear hK K hbq hH1 HB61
        try simp only [Act.put, List.setIfInBounds_toArray, List.set_cons_zero, List.set_cons_succ]
        refine wpAnyH_ready (rs := [5, 7]) (by kernel_rfl) (by simp) ?_
        refine AllReadyH.cons (o := { dst := some 14, op := Go.Op.call { callee := Go.Callee.value (Go.Operand.func 38), args := #[Go.Operand.tmp 12, Go.Operand.tmp 13], argTypes := #[40, 40] }, type := 40, pos := "law.go:25", after := #[{ on := 3, ground := Go.Ground.data }, { on := 4, ground := Go.Ground.data }, { on := 2, ground := Go.Ground.chain }], guard := none }) rfl (fun K hK => ?_) (AllReadyH.cons (o := { dst := some 8, op := Go.Op.alloc 40, type := 0, pos := "law.go:25", after := #[], guard := none }) rfl (fun K hK => ?_) (AllReadyH.nil))
        · skip
          go_simp
          with_reducible refine (HM.call _).mono ?_
          rintro r W3 ⟨rfl, hbq⟩
          go_wp2_with fail
          refine hK.out _ _ (held3_below hH2 hbq) (fun hH3 => ?_)
          have HB63 := Lib.hid ((hbq.block _ (blk_lt HB62.out)).trans HB62.out)
          clear hK K hbq hH2 HB62
          try simp only [Act.put, List.setIfInBounds_toArray, List.set_cons_zero, List.set_cons_succ]
          refine wpAnyH_ready (rs := [7]) (by kernel_rfl) (by simp) ?_
          refine AllReadyH.cons (o := { dst := some 8, op := Go.Op.alloc 40, type := 0, pos := "law.go:25", after := #[], guard := none }) rfl (fun K hK => ?_) (AllReadyH.nil)
          · skip
            go_simp
            refine hK.out _ _ (h3_alloc hH3 _) (fun hH4 => ?_)
            have HB64 := Lib.hid ((Below.heap_alloc W3 (.cells #[.int .i64 0, .int .u64 0] 40) _ (blk_lt HB63.out)).trans HB63.out)
            have hne : g6 ≠ W3.heap.size := Nat.ne_of_lt (blk_lt HB63.out)
            have HB74 := Lib.hid (heap_alloc_new W3 (.cells #[.int .i64 0, .int .u64 0] 40))
            have hz7 := h3_size hH3
            clear hK K hH3 HB63
            generalize W3.alloc (.cells #[.int .i64 0, .int .u64 0] 40) = W4 at *
            generalize W3.heap.size = g7 at *
            try simp only [Act.put, List.setIfInBounds_toArray, List.set_cons_zero, List.set_cons_succ]
            refine wpAnyH_ready (rs := [8]) (by kernel_rfl) (by simp) ?_
            refine AllReadyH.cons (o := { dst := none, op := Go.Op.store 40 (Go.Operand.tmp 7) (Go.Operand.tmp 11), type := 0, pos := "law.go:25", after := #[{ on := 6, ground := Go.Ground.data }, { on := 2, ground := Go.Ground.data }, { on := 5, ground := Go.Ground.chain }, { on := 0, ground := Go.Ground.phase }, { on := 1, ground := Go.Ground.phase }, { on := 2, ground := Go.Ground.phase }, { on := 3, ground := Go.Ground.textOnly Go.Departure.lateStores }, { on := 4, ground := Go.Ground.textOnly Go.Departure.lateStores }, { on := 5, ground := Go.Ground.textOnly Go.Departure.lateStoresUnsure }, { on := 6, ground := Go.Ground.phase }, { on := 7, ground := Go.Ground.phase }], guard := none }) rfl (fun K hK => ?_) (AllReadyH.nil)
            · skip
              have c0 := (res_cells HB64.out).1
              have c1 := (res_cells HB64.out).2
              have f0 := blk_free HB64.out 0
              have f1 := blk_free HB64.out 1
              go_simp
              refine hK.out _ _ (h3_set (h3_set hH4 hz6 _) hz6 _) (fun hH5 => ?_)
              have HB65 := Lib.hid (blk_set (blk_set HB64.out 0 (.int .i64 j)) 1 (.int .u64 (x : Int)))
              have HB75 := Lib.hid ((blk_far (w := W4.setCell ⟨g6, 0, none⟩ (.int .i64 j)) (g := g7) (g' := g6) (i := 1) hne.symm (.int .u64 (x : Int))).trans ((blk_far (w := W4) (g := g7) (g' := g6) (i := 0) hne.symm (.int .i64 j)).trans HB74.out))
              clear hK K hH4 c0 c1 f0 f1 HB64 HB74
              generalize (W4.setCell ⟨g6, 0, none⟩ (.int .i64 j)).setCell ⟨g6, 1, none⟩ (.int .u64 (x : Int)) = W5 at *
              try simp only [Act.put, List.setIfInBounds_toArray, List.set_cons_zero, List.set_cons_succ]
              refine wpAnyH_ready (rs := [9]) (by kernel_rfl) (by simp) ?_
              refine AllReadyH.cons (o := { dst := none, op := Go.Op.store 40 (Go.Operand.tmp 8) (Go.Operand.tmp 14), type := 0, pos := "law.go:25", after := #[{ on := 7, ground := Go.Ground.data }, { on := 5, ground := Go.Ground.data }, { on := 8, ground := Go.Ground.chain }, { on := 0, ground := Go.Ground.phase }, { on := 1, ground := Go.Ground.phase }, { on := 2, ground := Go.Ground.phase }, { on := 3, ground := Go.Ground.phase }, { on := 4, ground := Go.Ground.phase }, { on := 5, ground := Go.Ground.phase }, { on := 6, ground := Go.Ground.phase }, { on := 7, ground := Go.Ground.phase }, { on := 8, ground := Go.Ground.phase }], guard := none }) rfl (fun K hK => ?_) (AllReadyH.nil)
              · skip
                have c0 := (res_cells HB75.out).1
                have c1 := (res_cells HB75.out).2
                have f0 := blk_free HB75.out 0
                have f1 := blk_free HB75.out 1
                go_simp
                refine hK.out _ _ (h3_set (h3_set hH5 hz7 _) hz7 _) (fun hH6 => ?_)
                have HB76 := Lib.hid (blk_set (blk_set HB75.out 0 (.int .i64 k)) 1 (.int .u64 (y : Int)))
                have HB66 := Lib.hid ((blk_far (w := W5.setCell ⟨g7, 0, none⟩ (.int .i64 k)) (g := g6) (g' := g7) (i := 1) hne (.int .u64 (y : Int))).trans ((blk_far (w := W5) (g := g6) (g' := g7) (i := 0) hne (.int .i64 k)).trans HB65.out))
                clear hK K hH5 c0 c1 f0 f1 HB75 HB65
                generalize (W5.setCell ⟨g7, 0, none⟩ (.int .i64 k)).setCell ⟨g7, 1, none⟩ (.int .u64 (y : Int)) = W6 at *
                try simp only [Act.put, List.setIfInBounds_toArray, List.set_cons_zero, List.set_cons_succ]
                refine wpAnyH_done (by kernel_rfl) ?_ _
                refine NoPanic.normal ?_
                go_wp2_with fail
                go_meet
                exact ⟨g6, g7, rfl, rfl, h5_mk hH6 HB66.out HB76.out⟩
        · skip
          go_simp
          refine hK.out _ _ (h3_alloc hH2 _) (fun hH3 => ?_)
          have HB63 := Lib.hid ((Below.heap_alloc W2 (.cells #[.int .i64 0, .int .u64 0] 40) _ (blk_lt HB62.out)).trans HB62.out)
          have hne : g6 ≠ W2.heap.size := Nat.ne_of_lt (blk_lt HB62.out)
          have HB73 := Lib.hid (heap_alloc_new W2 (.cells #[.int .i64 0, .int .u64 0] 40))
          have hz7 := h3_size hH2
          clear hK K hH2 HB62
          generalize W2.alloc (.cells #[.int .i64 0, .int .u64 0] 40) = W3 at *
          generalize W2.heap.size = g7 at *
          try simp only [Act.put, List.setIfInBounds_toArray, List.set_cons_zero, List.set_cons_succ]
          refine wpAnyH_ready (rs := [5]) (by kernel_rfl) (by simp) ?_
          refine AllReadyH.cons (o := { dst := some 14, op := Go.Op.call { callee := Go.Callee.value (Go.Operand.func 38), args := #[Go.Operand.tmp 12, Go.Operand.tmp 13], argTypes := #[40, 40] }, type := 40, pos := "law.go:25", after := #[{ on := 3, ground := Go.Ground.data }, { on := 4, ground := Go.Ground.data }, { on := 2, ground := Go.Ground.chain }], guard := none }) rfl (fun K hK => ?_) (AllReadyH.nil)
          · skip
            go_simp
            with_reducible refine (HM.call _).mono ?_
            rintro r W4 ⟨rfl, hbq⟩
            go_wp2_with fail
            refine hK.out _ _ (held3_below hH3 hbq) (fun hH4 => ?_)
            have HB64 := Lib.hid ((hbq.block _ (blk_lt HB63.out)).trans HB63.out)
            have HB74 := Lib.hid ((hbq.block _ (blk_lt HB73.out)).trans HB73.out)
            clear hK K hbq hH3 HB63 HB73
            try simp only [Act.put, List.setIfInBounds_toArray, List.set_cons_zero, List.set_cons_succ]
            refine wpAnyH_ready (rs := [8]) (by kernel_rfl) (by simp) ?_
            refine AllReadyH.cons (o := { dst := none, op := Go.Op.store 40 (Go.Operand.tmp 7) (Go.Operand.tmp 11), type := 0, pos := "law.go:25", after := #[{ on := 6, ground := Go.Ground.data }, { on := 2, ground := Go.Ground.data }, { on := 5, ground := Go.Ground.chain }, { on := 0, ground := Go.Ground.phase }, { on := 1, ground := Go.Ground.phase }, { on := 2, ground := Go.Ground.phase }, { on := 3, ground := Go.Ground.textOnly Go.Departure.lateStores }, { on := 4, ground := Go.Ground.textOnly Go.Departure.lateStores }, { on := 5, ground := Go.Ground.textOnly Go.Departure.lateStoresUnsure }, { on := 6, ground := Go.Ground.phase }, { on := 7, ground := Go.Ground.phase }], guard := none }) rfl (fun K hK => ?_) (AllReadyH.nil)
            · skip
              have c0 := (res_cells HB64.out).1
              have c1 := (res_cells HB64.out).2
              have f0 := blk_free HB64.out 0
              have f1 := blk_free HB64.out 1
              go_simp
              refine hK.out _ _ (h3_set (h3_set hH4 hz6 _) hz6 _) (fun hH5 => ?_)
              have HB65 := Lib.hid (blk_set (blk_set HB64.out 0 (.int .i64 j)) 1 (.int .u64 (x : Int)))
              have HB75 := Lib.hid ((blk_far (w := W4.setCell ⟨g6, 0, none⟩ (.int .i64 j)) (g := g7) (g' := g6) (i := 1) hne.symm (.int .u64 (x : Int))).trans ((blk_far (w := W4) (g := g7) (g' := g6) (i := 0) hne.symm (.int .i64 j)).trans HB74.out))
              clear hK K hH4 c0 c1 f0 f1 HB64 HB74
              generalize (W4.setCell ⟨g6, 0, none⟩ (.int .i64 j)).setCell ⟨g6, 1, none⟩ (.int .u64 (x : Int)) = W5 at *
              try simp only [Act.put, List.setIfInBounds_toArray, List.set_cons_zero, List.set_cons_succ]
              refine wpAnyH_ready (rs := [9]) (by kernel_rfl) (by simp) ?_
              refine AllReadyH.cons (o := { dst := none, op := Go.Op.store 40 (Go.Operand.tmp 8) (Go.Operand.tmp 14), type := 0, pos := "law.go:25", after := #[{ on := 7, ground := Go.Ground.data }, { on := 5, ground := Go.Ground.data }, { on := 8, ground := Go.Ground.chain }, { on := 0, ground := Go.Ground.phase }, { on := 1, ground := Go.Ground.phase }, { on := 2, ground := Go.Ground.phase }, { on := 3, ground := Go.Ground.phase }, { on := 4, ground := Go.Ground.phase }, { on := 5, ground := Go.Ground.phase }, { on := 6, ground := Go.Ground.phase }, { on := 7, ground := Go.Ground.phase }, { on := 8, ground := Go.Ground.phase }], guard := none }) rfl (fun K hK => ?_) (AllReadyH.nil)
              · skip
                have c0 := (res_cells HB75.out).1
                have c1 := (res_cells HB75.out).2
                have f0 := blk_free HB75.out 0
                have f1 := blk_free HB75.out 1
                go_simp
                refine hK.out _ _ (h3_set (h3_set hH5 hz7 _) hz7 _) (fun hH6 => ?_)
                have HB76 := Lib.hid (blk_set (blk_set HB75.out 0 (.int .i64 k)) 1 (.int .u64 (y : Int)))
                have HB66 := Lib.hid ((blk_far (w := W5.setCell ⟨g7, 0, none⟩ (.int .i64 k)) (g := g6) (g' := g7) (i := 1) hne (.int .u64 (y : Int))).trans ((blk_far (w := W5) (g := g6) (g' := g7) (i := 0) hne (.int .i64 k)).trans HB65.out))
                clear hK K hH5 c0 c1 f0 f1 HB75 HB65
                generalize (W5.setCell ⟨g7, 0, none⟩ (.int .i64 k)).setCell ⟨g7, 1, none⟩ (.int .u64 (y : Int)) = W6 at *
                try simp only [Act.put, List.setIfInBounds_toArray, List.set_cons_zero, List.set_cons_succ]
                refine wpAnyH_done (by kernel_rfl) ?_ _
                refine NoPanic.normal ?_
                go_wp2_with fail
                go_meet
                exact ⟨g6, g7, rfl, rfl, h5_mk hH6 HB66.out HB76.out⟩
      · skip
        go_simp
        refine hK.out _ _ (h3_alloc hH1 _) (fun hH2 => ?_)
        have HB62 := Lib.hid ((Below.heap_alloc W1 (.cells #[.int .i64 0, .int .u64 0] 40) _ (blk_lt HB61.out)).trans HB61.out)
        have hne : g6 ≠ W1.heap.size := Nat.ne_of_lt (blk_lt HB61.out)
        have HB72 := Lib.hid (heap_alloc_new W1 (.cells #[.int .i64 0, .int .u64 0] 40))
        have hz7 := h3_size hH1
        clear hK K hH1 HB61
        generalize W1.alloc (.cells #[.int .i64 0, .int .u64 0] 40) = W2 at *
        generalize W1.heap.size = g7 at *
        try simp only [Act.put, List.setIfInBounds_toArray, List.set_cons_zero, List.set_cons_succ]
        refine wpAnyH_ready (rs := [2]) (by kernel_rfl) (by simp) ?_
        refine AllReadyH.cons (o := { dst := some 11, op := Go.Op.call { callee := Go.Callee.value (Go.Operand.func 36), args := #[Go.Operand.tmp 9, Go.Operand.tmp 10], argTypes := #[40, 40] }, type := 40, pos := "law.go:25", after := #[{ on := 0, ground := Go.Ground.data }, { on := 1, ground := Go.Ground.data }], guard := none }) rfl (fun K hK => ?_) (AllReadyH.nil)
        · skip
          go_simp
          with_reducible refine (HJ.call _).mono ?_
          rintro r W3 ⟨rfl, hbq⟩
          go_wp2_with fail
          refine hK.out _ _ (held3_below hH2 hbq) (fun hH3 => ?_)
          have HB63 := Lib.hid ((hbq.block _ (blk_lt HB62.out)).trans HB62.out)
          have HB73 := Lib.hid ((hbq.block _ (blk_lt HB72.out)).trans HB72.out)
          clear hK K hbq hH2 HB62 HB72
          try simp only [Act.put, List.setIfInBounds_toArray, List.set_cons_zero, List.set_cons_succ]
          refine wpAnyH_ready (rs := [5]) (by kernel_rfl) (by simp) ?_
          refine AllReadyH.cons (o := { dst := some 14, op := Go.Op.call { callee := Go.Callee.value (Go.Operand.func 38), args := #[Go.Operand.tmp 12, Go.Operand.tmp 13], argTypes := #[40, 40] }, type := 40, pos := "law.go:25", after := #[{ on := 3, ground := Go.Ground.data }, { on := 4, ground := Go.Ground.data }, { on := 2, ground := Go.Ground.chain }], guard := none }) rfl (fun K hK => ?_) (AllReadyH.nil)
          · skip
            go_simp
            with_reducible refine (HM.call _).mono ?_
            rintro r W4 ⟨rfl, hbq⟩
            go_wp2_with fail
            refine hK.out _ _ (held3_below hH3 hbq) (fun hH4 => ?_)
            have HB64 := Lib.hid ((hbq.block _ (blk_lt HB63.out)).trans HB63.out)
            have HB74 := Lib.hid ((hbq.block _ (blk_lt HB73.out)).trans HB73.out)
            clear hK K hbq hH3 HB63 HB73
            try simp only [Act.put, List.setIfInBounds_toArray, List.set_cons_zero, List.set_cons_succ]
            refine wpAnyH_ready (rs := [8]) (by kernel_rfl) (by simp) ?_
            refine AllReadyH.cons (o := { dst := none, op := Go.Op.store 40 (Go.Operand.tmp 7) (Go.Operand.tmp 11), type := 0, pos := "law.go:25", after := #[{ on := 6, ground := Go.Ground.data }, { on := 2, ground := Go.Ground.data }, { on := 5, ground := Go.Ground.chain }, { on := 0, ground := Go.Ground.phase }, { on := 1, ground := Go.Ground.phase }, { on := 2, ground := Go.Ground.phase }, { on := 3, ground := Go.Ground.textOnly Go.Departure.lateStores }, { on := 4, ground := Go.Ground.textOnly Go.Departure.lateStores }, { on := 5, ground := Go.Ground.textOnly Go.Departure.lateStoresUnsure }, { on := 6, ground := Go.Ground.phase }, { on := 7, ground := Go.Ground.phase }], guard := none }) rfl (fun K hK => ?_) (AllReadyH.nil)
            · skip
              have c0 := (res_cells HB64.out).1
              have c1 := (res_cells HB64.out).2
              have f0 := blk_free HB64.out 0
              have f1 := blk_free HB64.out 1
              go_simp
              refine hK.out _ _ (h3_set (h3_set hH4 hz6 _) hz6 _) (fun hH5 => ?_)
              have HB65 := Lib.hid (blk_set (blk_set HB64.out 0 (.int .i64 j)) 1 (.int .u64 (x : Int)))
              have HB75 := Lib.hid ((blk_far (w := W4.setCell ⟨g6, 0, none⟩ (.int .i64 j)) (g := g7) (g' := g6) (i := 1) hne.symm (.int .u64 (x : Int))).trans ((blk_far (w := W4) (g := g7) (g' := g6) (i := 0) hne.symm (.int .i64 j)).trans HB74.out))
              clear hK K hH4 c0 c1 f0 f1 HB64 HB74
              generalize (W4.setCell ⟨g6, 0, none⟩ (.int .i64 j)).setCell ⟨g6, 1, none⟩ (.int .u64 (x : Int)) = W5 at *
              try simp only [Act.put, List.setIfInBounds_toArray, List.set_cons_zero, List.set_cons_succ]
              refine wpAnyH_ready (rs := [9]) (by kernel_rfl) (by simp) ?_
              refine AllReadyH.cons (o := { dst := none, op := Go.Op.store 40 (Go.Operand.tmp 8) (Go.Operand.tmp 14), type := 0, pos := "law.go:25", after := #[{ on := 7, ground := Go.Ground.data }, { on := 5, ground := Go.Ground.data }, { on := 8, ground := Go.Ground.chain }, { on := 0, ground := Go.Ground.phase }, { on := 1, ground := Go.Ground.phase }, { on := 2, ground := Go.Ground.phase }, { on := 3, ground := Go.Ground.phase }, { on := 4, ground := Go.Ground.phase }, { on := 5, ground := Go.Ground.phase }, { on := 6, ground := Go.Ground.phase }, { on := 7, ground := Go.Ground.phase }, { on := 8, ground := Go.Ground.phase }], guard := none }) rfl (fun K hK => ?_) (AllReadyH.nil)
              · skip
                have c0 := (res_cells HB75.out).1
                have c1 := (res_cells HB75.out).2
                have f0 := blk_free HB75.out 0
                have f1 := blk_free HB75.out 1
                go_simp
                refine hK.out _ _ (h3_set (h3_set hH5 hz7 _) hz7 _) (fun hH6 => ?_)
                have HB76 := Lib.hid (blk_set (blk_set HB75.out 0 (.int .i64 k)) 1 (.int .u64 (y : Int)))
                have HB66 := Lib.hid ((blk_far (w := W5.setCell ⟨g7, 0, none⟩ (.int .i64 k)) (g := g6) (g' := g7) (i := 1) hne (.int .u64 (y : Int))).trans ((blk_far (w := W5) (g := g6) (g' := g7) (i := 0) hne (.int .i64 k)).trans HB65.out))
                clear hK K hH5 c0 c1 f0 f1 HB75 HB65
                generalize (W5.setCell ⟨g7, 0, none⟩ (.int .i64 k)).setCell ⟨g7, 1, none⟩ (.int .u64 (y : Int)) = W6 at *
                try simp only [Act.put, List.setIfInBounds_toArray, List.set_cons_zero, List.set_cons_succ]
                refine wpAnyH_done (by kernel_rfl) ?_ _
                refine NoPanic.normal ?_
                go_wp2_with fail
                go_meet
                exact ⟨g6, g7, rfl, rfl, h5_mk hH6 HB66.out HB76.out⟩
    · skip
      go_simp
      refine hK.out _ _ (h3_alloc hH0 _) (fun hH1 => ?_)
      have HB71 := Lib.hid (heap_alloc_new W0 (.cells #[.int .i64 0, .int .u64 0] 40))
      have hz7 := h3_size hH0
      clear hK K hH0 
      generalize W0.alloc (.cells #[.int .i64 0, .int .u64 0] 40) = W1 at *
      generalize W0.heap.size = g7 at *
      try simp only [Act.put, List.setIfInBounds_toArray, List.set_cons_zero, List.set_cons_succ]
      refine wpAnyH_ready (rs := [2, 6]) (by kernel_rfl) (by simp) ?_
      refine AllReadyH.cons (o := { dst := some 11, op := Go.Op.call { callee := Go.Callee.value (Go.Operand.func 36), args := #[Go.Operand.tmp 9, Go.Operand.tmp 10], argTypes := #[40, 40] }, type := 40, pos := "law.go:25", after := #[{ on := 0, ground := Go.Ground.data }, { on := 1, ground := Go.Ground.data }], guard := none }) rfl (fun K hK => ?_) (AllReadyH.cons (o := { dst := some 7, op := Go.Op.alloc 40, type := 0, pos := "law.go:25", after := #[], guard := none }) rfl (fun K hK => ?_) (AllReadyH.nil))
      · skip
        go_simp
        with_reducible refine (HJ.call _).mono ?_
        rintro r W2 ⟨rfl, hbq⟩
        go_wp2_with fail
        refine hK.out _ _ (held3_below hH1 hbq) (fun hH2 => ?_)
        have HB72 := Lib.hid ((hbq.block _ (blk_lt HB71.out)).trans HB71.out)
        clear hK K hbq hH1 HB71
        try simp only [Act.put, List.setIfInBounds_toArray, List.set_cons_zero, List.set_cons_succ]
        refine wpAnyH_ready (rs := [5, 6]) (by kernel_rfl) (by simp) ?_
        refine AllReadyH.cons (o := { dst := some 14, op := Go.Op.call { callee := Go.Callee.value (Go.Operand.func 38), args := #[Go.Operand.tmp 12, Go.Operand.tmp 13], argTypes := #[40, 40] }, type := 40, pos := "law.go:25", after := #[{ on := 3, ground := Go.Ground.data }, { on := 4, ground := Go.Ground.data }, { on := 2, ground := Go.Ground.chain }], guard := none }) rfl (fun K hK => ?_) (AllReadyH.cons (o := { dst := some 7, op := Go.Op.alloc 40, type := 0, pos := "law.go:25", after := #[], guard := none }) rfl (fun K hK => ?_) (AllReadyH.nil))
        · skip
          go_simp
          with_reducible refine (HM.call _).mono ?_
          rintro r W3 ⟨rfl, hbq⟩
          go_wp2_with fail
          refine hK.out _ _ (held3_below hH2 hbq) (fun hH3 => ?_)
          have HB73 := Lib.hid ((hbq.block _ (blk_lt HB72.out)).trans HB72.out)
          clear hK K hbq hH2 HB72
          try simp only [Act.put, List.setIfInBounds_toArray, List.set_cons_zero, List.set_cons_succ]
          refine wpAnyH_ready (rs := [6]) (by kernel_rfl) (by simp) ?_
          refine AllReadyH.cons (o := { dst := some 7, op := Go.Op.alloc 40, type := 0, pos := "law.go:25", after := #[], guard := none }) rfl (fun K hK => ?_) (AllReadyH.nil)
          · skip
            go_simp
            refine hK.out _ _ (h3_alloc hH3 _) (fun hH4 => ?_)
            have HB74 := Lib.hid ((Below.heap_alloc W3 (.cells #[.int .i64 0, .int .u64 0] 40) _ (blk_lt HB73.out)).trans HB73.out)
            have hne : g7 ≠ W3.heap.size := Nat.ne_of_lt (blk_lt HB73.out)
            have HB64 := Lib.hid (heap_alloc_new W3 (.cells #[.int .i64 0, .int .u64 0] 40))
            have hz6 := h3_size hH3
            clear hK K hH3 HB73
            generalize W3.alloc (.cells #[.int .i64 0, .int .u64 0] 40) = W4 at *
            generalize W3.heap.size = g6 at *
            try simp only [Act.put, List.setIfInBounds_toArray, List.set_cons_zero, List.set_cons_succ]
            refine wpAnyH_ready (rs := [8]) (by kernel_rfl) (by simp) ?_
            refine AllReadyH.cons (o := { dst := none, op := Go.Op.store 40 (Go.Operand.tmp 7) (Go.Operand.tmp 11), type := 0, pos := "law.go:25", after := #[{ on := 6, ground := Go.Ground.data }, { on := 2, ground := Go.Ground.data }, { on := 5, ground := Go.Ground.chain }, { on := 0, ground := Go.Ground.phase }, { on := 1, ground := Go.Ground.phase }, { on := 2, ground := Go.Ground.phase }, { on := 3, ground := Go.Ground.textOnly Go.Departure.lateStores }, { on := 4, ground := Go.Ground.textOnly Go.Departure.lateStores }, { on := 5, ground := Go.Ground.textOnly Go.Departure.lateStoresUnsure }, { on := 6, ground := Go.Ground.phase }, { on := 7, ground := Go.Ground.phase }], guard := none }) rfl (fun K hK => ?_) (AllReadyH.nil)
            · skip
              have c0 := (res_cells HB64.out).1
              have c1 := (res_cells HB64.out).2
              have f0 := blk_free HB64.out 0
              have f1 := blk_free HB64.out 1
              go_simp
              refine hK.out _ _ (h3_set (h3_set hH4 hz6 _) hz6 _) (fun hH5 => ?_)
              have HB65 := Lib.hid (blk_set (blk_set HB64.out 0 (.int .i64 j)) 1 (.int .u64 (x : Int)))
              have HB75 := Lib.hid ((blk_far (w := W4.setCell ⟨g6, 0, none⟩ (.int .i64 j)) (g := g7) (g' := g6) (i := 1) hne (.int .u64 (x : Int))).trans ((blk_far (w := W4) (g := g7) (g' := g6) (i := 0) hne (.int .i64 j)).trans HB74.out))
              clear hK K hH4 c0 c1 f0 f1 HB64 HB74
              generalize (W4.setCell ⟨g6, 0, none⟩ (.int .i64 j)).setCell ⟨g6, 1, none⟩ (.int .u64 (x : Int)) = W5 at *
              try simp only [Act.put, List.setIfInBounds_toArray, List.set_cons_zero, List.set_cons_succ]
              refine wpAnyH_ready (rs := [9]) (by kernel_rfl) (by simp) ?_
              refine AllReadyH.cons (o := { dst := none, op := Go.Op.store 40 (Go.Operand.tmp 8) (Go.Operand.tmp 14), type := 0, pos := "law.go:25", after := #[{ on := 7, ground := Go.Ground.data }, { on := 5, ground := Go.Ground.data }, { on := 8, ground := Go.Ground.chain }, { on := 0, ground := Go.Ground.phase }, { on := 1, ground := Go.Ground.phase }, { on := 2, ground := Go.Ground.phase }, { on := 3, ground := Go.Ground.phase }, { on := 4, ground := Go.Ground.phase }, { on := 5, ground := Go.Ground.phase }, { on := 6, ground := Go.Ground.phase }, { on := 7, ground := Go.Ground.phase }, { on := 8, ground := Go.Ground.phase }], guard := none }) rfl (fun K hK => ?_) (AllReadyH.nil)
              · skip
                have c0 := (res_cells HB75.out).1
                have c1 := (res_cells HB75.out).2
                have f0 := blk_free HB75.out 0
                have f1 := blk_free HB75.out 1
                go_simp
                refine hK.out _ _ (h3_set (h3_set hH5 hz7 _) hz7 _) (fun hH6 => ?_)
                have HB76 := Lib.hid (blk_set (blk_set HB75.out 0 (.int .i64 k)) 1 (.int .u64 (y : Int)))
                have HB66 := Lib.hid ((blk_far (w := W5.setCell ⟨g7, 0, none⟩ (.int .i64 k)) (g := g6) (g' := g7) (i := 1) hne.symm (.int .u64 (y : Int))).trans ((blk_far (w := W5) (g := g6) (g' := g7) (i := 0) hne.symm (.int .i64 k)).trans HB65.out))
                clear hK K hH5 c0 c1 f0 f1 HB75 HB65
                generalize (W5.setCell ⟨g7, 0, none⟩ (.int .i64 k)).setCell ⟨g7, 1, none⟩ (.int .u64 (y : Int)) = W6 at *
                try simp only [Act.put, List.setIfInBounds_toArray, List.set_cons_zero, List.set_cons_succ]
                refine wpAnyH_done (by kernel_rfl) ?_ _
                refine NoPanic.normal ?_
                go_wp2_with fail
                go_meet
                exact ⟨g6, g7, rfl, rfl, h5_mk hH6 HB66.out HB76.out⟩
        · skip
          go_simp
          refine hK.out _ _ (h3_alloc hH2 _) (fun hH3 => ?_)
          have HB73 := Lib.hid ((Below.heap_alloc W2 (.cells #[.int .i64 0, .int .u64 0] 40) _ (blk_lt HB72.out)).trans HB72.out)
          have hne : g7 ≠ W2.heap.size := Nat.ne_of_lt (blk_lt HB72.out)
          have HB63 := Lib.hid (heap_alloc_new W2 (.cells #[.int .i64 0, .int .u64 0] 40))
          have hz6 := h3_size hH2
          clear hK K hH2 HB72
          generalize W2.alloc (.cells #[.int .i64 0, .int .u64 0] 40) = W3 at *
          generalize W2.heap.size = g6 at *
          try simp only [Act.put, List.setIfInBounds_toArray, List.set_cons_zero, List.set_cons_succ]
          refine wpAnyH_ready (rs := [5]) (by kernel_rfl) (by simp) ?_
          refine AllReadyH.cons (o := { dst := some 14, op := Go.Op.call { callee := Go.Callee.value (Go.Operand.func 38), args := #[Go.Operand.tmp 12, Go.Operand.tmp 13], argTypes := #[40, 40] }, type := 40, pos := "law.go:25", after := #[{ on := 3, ground := Go.Ground.data }, { on := 4, ground := Go.Ground.data }, { on := 2, ground := Go.Ground.chain }], guard := none }) rfl (fun K hK => ?_) (AllReadyH.nil)
          · skip
            go_simp
            with_reducible refine (HM.call _).mono ?_
            rintro r W4 ⟨rfl, hbq⟩
            go_wp2_with fail
            refine hK.out _ _ (held3_below hH3 hbq) (fun hH4 => ?_)
            have HB74 := Lib.hid ((hbq.block _ (blk_lt HB73.out)).trans HB73.out)
            have HB64 := Lib.hid ((hbq.block _ (blk_lt HB63.out)).trans HB63.out)
            clear hK K hbq hH3 HB73 HB63
            try simp only [Act.put, List.setIfInBounds_toArray, List.set_cons_zero, List.set_cons_succ]
            refine wpAnyH_ready (rs := [8]) (by kernel_rfl) (by simp) ?_
            refine AllReadyH.cons (o := { dst := none, op := Go.Op.store 40 (Go.Operand.tmp 7) (Go.Operand.tmp 11), type := 0, pos := "law.go:25", after := #[{ on := 6, ground := Go.Ground.data }, { on := 2, ground := Go.Ground.data }, { on := 5, ground := Go.Ground.chain }, { on := 0, ground := Go.Ground.phase }, { on := 1, ground := Go.Ground.phase }, { on := 2, ground := Go.Ground.phase }, { on := 3, ground := Go.Ground.textOnly Go.Departure.lateStores }, { on := 4, ground := Go.Ground.textOnly Go.Departure.lateStores }, { on := 5, ground := Go.Ground.textOnly Go.Departure.lateStoresUnsure }, { on := 6, ground := Go.Ground.phase }, { on := 7, ground := Go.Ground.phase }], guard := none }) rfl (fun K hK => ?_) (AllReadyH.nil)
            · skip
              have c0 := (res_cells HB64.out).1
              have c1 := (res_cells HB64.out).2
              have f0 := blk_free HB64.out 0
              have f1 := blk_free HB64.out 1
              go_simp
              refine hK.out _ _ (h3_set (h3_set hH4 hz6 _) hz6 _) (fun hH5 => ?_)
              have HB65 := Lib.hid (blk_set (blk_set HB64.out 0 (.int .i64 j)) 1 (.int .u64 (x : Int)))
              have HB75 := Lib.hid ((blk_far (w := W4.setCell ⟨g6, 0, none⟩ (.int .i64 j)) (g := g7) (g' := g6) (i := 1) hne (.int .u64 (x : Int))).trans ((blk_far (w := W4) (g := g7) (g' := g6) (i := 0) hne (.int .i64 j)).trans HB74.out))
              clear hK K hH4 c0 c1 f0 f1 HB64 HB74
              generalize (W4.setCell ⟨g6, 0, none⟩ (.int .i64 j)).setCell ⟨g6, 1, none⟩ (.int .u64 (x : Int)) = W5 at *
              try simp only [Act.put, List.setIfInBounds_toArray, List.set_cons_zero, List.set_cons_succ]
              refine wpAnyH_ready (rs := [9]) (by kernel_rfl) (by simp) ?_
              refine AllReadyH.cons (o := { dst := none, op := Go.Op.store 40 (Go.Operand.tmp 8) (Go.Operand.tmp 14), type := 0, pos := "law.go:25", after := #[{ on := 7, ground := Go.Ground.data }, { on := 5, ground := Go.Ground.data }, { on := 8, ground := Go.Ground.chain }, { on := 0, ground := Go.Ground.phase }, { on := 1, ground := Go.Ground.phase }, { on := 2, ground := Go.Ground.phase }, { on := 3, ground := Go.Ground.phase }, { on := 4, ground := Go.Ground.phase }, { on := 5, ground := Go.Ground.phase }, { on := 6, ground := Go.Ground.phase }, { on := 7, ground := Go.Ground.phase }, { on := 8, ground := Go.Ground.phase }], guard := none }) rfl (fun K hK => ?_) (AllReadyH.nil)
              · skip
                have c0 := (res_cells HB75.out).1
                have c1 := (res_cells HB75.out).2
                have f0 := blk_free HB75.out 0
                have f1 := blk_free HB75.out 1
                go_simp
                refine hK.out _ _ (h3_set (h3_set hH5 hz7 _) hz7 _) (fun hH6 => ?_)
                have HB76 := Lib.hid (blk_set (blk_set HB75.out 0 (.int .i64 k)) 1 (.int .u64 (y : Int)))
                have HB66 := Lib.hid ((blk_far (w := W5.setCell ⟨g7, 0, none⟩ (.int .i64 k)) (g := g6) (g' := g7) (i := 1) hne.symm (.int .u64 (y : Int))).trans ((blk_far (w := W5) (g := g6) (g' := g7) (i := 0) hne.symm (.int .i64 k)).trans HB65.out))
                clear hK K hH5 c0 c1 f0 f1 HB75 HB65
                generalize (W5.setCell ⟨g7, 0, none⟩ (.int .i64 k)).setCell ⟨g7, 1, none⟩ (.int .u64 (y : Int)) = W6 at *
                try simp only [Act.put, List.setIfInBounds_toArray, List.set_cons_zero, List.set_cons_succ]
                refine wpAnyH_done (by kernel_rfl) ?_ _
                refine NoPanic.normal ?_
                go_wp2_with fail
                go_meet
                exact ⟨g6, g7, rfl, rfl, h5_mk hH6 HB66.out HB76.out⟩
      · skip
        go_simp
        refine hK.out _ _ (h3_alloc hH1 _) (fun hH2 => ?_)
        have HB72 := Lib.hid ((Below.heap_alloc W1 (.cells #[.int .i64 0, .int .u64 0] 40) _ (blk_lt HB71.out)).trans HB71.out)
        have hne : g7 ≠ W1.heap.size := Nat.ne_of_lt (blk_lt HB71.out)
        have HB62 := Lib.hid (heap_alloc_new W1 (.cells #[.int .i64 0, .int .u64 0] 40))
        have hz6 := h3_size hH1
        clear hK K hH1 HB71
        generalize W1.alloc (.cells #[.int .i64 0, .int .u64 0] 40) = W2 at *
        generalize W1.heap.size = g6 at *
        try simp only [Act.put, List.setIfInBounds_toArray, List.set_cons_zero, List.set_cons_succ]
        refine wpAnyH_ready (rs := [2]) (by kernel_rfl) (by simp) ?_
        refine AllReadyH.cons (o := { dst := some 11, op := Go.Op.call { callee := Go.Callee.value (Go.Operand.func 36), args := #[Go.Operand.tmp 9, Go.Operand.tmp 10], argTypes := #[40, 40] }, type := 40, pos := "law.go:25", after := #[{ on := 0, ground := Go.Ground.data }, { on := 1, ground := Go.Ground.data }], guard := none }) rfl (fun K hK => ?_) (AllReadyH.nil)
        · skip
          go_simp
          with_reducible refine (HJ.call _).mono ?_
          rintro r W3 ⟨rfl, hbq⟩
          go_wp2_with fail
          refine hK.out _ _ (held3_below hH2 hbq) (fun hH3 => ?_)
          have HB73 := Lib.hid ((hbq.block _ (blk_lt HB72.out)).trans HB72.out)
          have HB63 := Lib.hid ((hbq.block _ (blk_lt HB62.out)).trans HB62.out)
          clear hK K hbq hH2 HB72 HB62
          try simp only [Act.put, List.setIfInBounds_toArray, List.set_cons_zero, List.set_cons_succ]
          refine wpAnyH_ready (rs := [5]) (by kernel_rfl) (by simp) ?_
          refine AllReadyH.cons (o := { dst := some 14, op := Go.Op.call { callee := Go.Callee.value (Go.Operand.func 38), args := #[Go.Operand.tmp 12, Go.Operand.tmp 13], argTypes := #[40, 40] }, type := 40, pos := "law.go:25", after := #[{ on := 3, ground := Go.Ground.data }, { on := 4, ground := Go.Ground.data }, { on := 2, ground := Go.Ground.chain }], guard := none }) rfl (fun K hK => ?_) (AllReadyH.nil)
          · skip
            go_simp
            with_reducible refine (HM.call _).mono ?_
            rintro r W4 ⟨rfl, hbq⟩
            go_wp2_with fail
            refine hK.out _ _ (held3_below hH3 hbq) (fun hH4 => ?_)
            have HB74 := Lib.hid ((hbq.block _ (blk_lt HB73.out)).trans HB73.out)
            have HB64 := Lib.hid ((hbq.block _ (blk_lt HB63.out)).trans HB63.out)
            clear hK K hbq hH3 HB73 HB63
            try simp only [Act.put, List.setIfInBounds_toArray, List.set_cons_zero, List.set_cons_succ]
            refine wpAnyH_ready (rs := [8]) (by kernel_rfl) (by simp) ?_
            refine AllReadyH.cons (o := { dst := none, op := Go.Op.store 40 (Go.Operand.tmp 7) (Go.Operand.tmp 11), type := 0, pos := "law.go:25", after := #[{ on := 6, ground := Go.Ground.data }, { on := 2, ground := Go.Ground.data }, { on := 5, ground := Go.Ground.chain }, { on := 0, ground := Go.Ground.phase }, { on := 1, ground := Go.Ground.phase }, { on := 2, ground := Go.Ground.phase }, { on := 3, ground := Go.Ground.textOnly Go.Departure.lateStores }, { on := 4, ground := Go.Ground.textOnly Go.Departure.lateStores }, { on := 5, ground := Go.Ground.textOnly Go.Departure.lateStoresUnsure }, { on := 6, ground := Go.Ground.phase }, { on := 7, ground := Go.Ground.phase }], guard := none }) rfl (fun K hK => ?_) (AllReadyH.nil)
            · skip
              have c0 := (res_cells HB64.out).1
              have c1 := (res_cells HB64.out).2
              have f0 := blk_free HB64.out 0
              have f1 := blk_free HB64.out 1
              go_simp
              refine hK.out _ _ (h3_set (h3_set hH4 hz6 _) hz6 _) (fun hH5 => ?_)
              have HB65 := Lib.hid (blk_set (blk_set HB64.out 0 (.int .i64 j)) 1 (.int .u64 (x : Int)))
              have HB75 := Lib.hid ((blk_far (w := W4.setCell ⟨g6, 0, none⟩ (.int .i64 j)) (g := g7) (g' := g6) (i := 1) hne (.int .u64 (x : Int))).trans ((blk_far (w := W4) (g := g7) (g' := g6) (i := 0) hne (.int .i64 j)).trans HB74.out))
              clear hK K hH4 c0 c1 f0 f1 HB64 HB74
              generalize (W4.setCell ⟨g6, 0, none⟩ (.int .i64 j)).setCell ⟨g6, 1, none⟩ (.int .u64 (x : Int)) = W5 at *
              try simp only [Act.put, List.setIfInBounds_toArray, List.set_cons_zero, List.set_cons_succ]
              refine wpAnyH_ready (rs := [9]) (by kernel_rfl) (by simp) ?_
              refine AllReadyH.cons (o := { dst := none, op := Go.Op.store 40 (Go.Operand.tmp 8) (Go.Operand.tmp 14), type := 0, pos := "law.go:25", after := #[{ on := 7, ground := Go.Ground.data }, { on := 5, ground := Go.Ground.data }, { on := 8, ground := Go.Ground.chain }, { on := 0, ground := Go.Ground.phase }, { on := 1, ground := Go.Ground.phase }, { on := 2, ground := Go.Ground.phase }, { on := 3, ground := Go.Ground.phase }, { on := 4, ground := Go.Ground.phase }, { on := 5, ground := Go.Ground.phase }, { on := 6, ground := Go.Ground.phase }, { on := 7, ground := Go.Ground.phase }, { on := 8, ground := Go.Ground.phase }], guard := none }) rfl (fun K hK => ?_) (AllReadyH.nil)
              · skip
                have c0 := (res_cells HB75.out).1
                have c1 := (res_cells HB75.out).2
                have f0 := blk_free HB75.out 0
                have f1 := blk_free HB75.out 1
                go_simp
                refine hK.out _ _ (h3_set (h3_set hH5 hz7 _) hz7 _) (fun hH6 => ?_)
                have HB76 := Lib.hid (blk_set (blk_set HB75.out 0 (.int .i64 k)) 1 (.int .u64 (y : Int)))
                have HB66 := Lib.hid ((blk_far (w := W5.setCell ⟨g7, 0, none⟩ (.int .i64 k)) (g := g6) (g' := g7) (i := 1) hne.symm (.int .u64 (y : Int))).trans ((blk_far (w := W5) (g := g6) (g' := g7) (i := 0) hne.symm (.int .i64 k)).trans HB65.out))
                clear hK K hH5 c0 c1 f0 f1 HB75 HB65
                generalize (W5.setCell ⟨g7, 0, none⟩ (.int .i64 k)).setCell ⟨g7, 1, none⟩ (.int .u64 (y : Int)) = W6 at *
                try simp only [Act.put, List.setIfInBounds_toArray, List.set_cons_zero, List.set_cons_succ]
                refine wpAnyH_done (by kernel_rfl) ?_ _
                refine NoPanic.normal ?_
                go_wp2_with fail
                go_meet
                exact ⟨g6, g7, rfl, rfl, h5_mk hH6 HB66.out HB76.out⟩
  case rest =>
    obtain ⟨g, h, rfl, rfl, hH⟩ := hcut
    clear HJ HM
    go_upto_region 2 with fail
    go_cut [49] (fun s wx => s = .bool false ∧ Held5 w l c m d n e g j x h k y wx)
    case first =>
      clear AJ BJ JC MA MB CA CB CM RA ZA AT HT
      cases ab
      · skip
        obtain ⟨k1, k2, k3, k4, k5, k6, k7, k8, k9, k10, k11, k12, k13, k14⟩ := hH
        go_wp2_with fail
        with_reducible refine (AA.call _).mono ?_
        rintro r wq0 ⟨rfl, hbq⟩
        have hH := held5_below ⟨k1, k2, k3, k4, k5, k6, k7, k8, k9, k10, k11, k12, k13, k14⟩ hbq
        clear hbq k1 k2 k3 k4 k5 k6 k7 k8 k9 k10 k11 k12 k13 k14
        obtain ⟨k1, k2, k3, k4, k5, k6, k7, k8, k9, k10, k11, k12, k13, k14⟩ := hH
        go_wp2_with fail
        with_reducible refine (AB.call _).mono ?_
        rintro r wq1 ⟨rfl, hbq⟩
        have hH := held5_below ⟨k1, k2, k3, k4, k5, k6, k7, k8, k9, k10, k11, k12, k13, k14⟩ hbq
        clear hbq k1 k2 k3 k4 k5 k6 k7 k8 k9 k10 k11 k12 k13 k14
        obtain ⟨k1, k2, k3, k4, k5, k6, k7, k8, k9, k10, k11, k12, k13, k14⟩ := hH
        go_wp2_with fail
        with_reducible refine (AB.call _).mono ?_
        rintro r wq2 ⟨rfl, hbq⟩
        have hH := held5_below ⟨k1, k2, k3, k4, k5, k6, k7, k8, k9, k10, k11, k12, k13, k14⟩ hbq
        clear hbq k1 k2 k3 k4 k5 k6 k7 k8 k9 k10 k11 k12 k13 k14
        obtain ⟨k1, k2, k3, k4, k5, k6, k7, k8, k9, k10, k11, k12, k13, k14⟩ := hH
        go_wp2_with fail
        go_meet
        exact ⟨rfl, k1, k2, k3, k4, k5, k6, k7, k8, k9, k10, k11, k12, k13, k14⟩
      · cases ba
        · cases bc
          · skip
            obtain ⟨k1, k2, k3, k4, k5, k6, k7, k8, k9, k10, k11, k12, k13, k14⟩ := hH
            go_wp2_with fail
            with_reducible refine (AA.call _).mono ?_
            rintro r wq0 ⟨rfl, hbq⟩
            have hH := held5_below ⟨k1, k2, k3, k4, k5, k6, k7, k8, k9, k10, k11, k12, k13, k14⟩ hbq
            clear hbq k1 k2 k3 k4 k5 k6 k7 k8 k9 k10 k11 k12 k13 k14
            obtain ⟨k1, k2, k3, k4, k5, k6, k7, k8, k9, k10, k11, k12, k13, k14⟩ := hH
            go_wp2_with fail
            with_reducible refine (AB.call _).mono ?_
            rintro r wq1 ⟨rfl, hbq⟩
            have hH := held5_below ⟨k1, k2, k3, k4, k5, k6, k7, k8, k9, k10, k11, k12, k13, k14⟩ hbq
            clear hbq k1 k2 k3 k4 k5 k6 k7 k8 k9 k10 k11 k12 k13 k14
            obtain ⟨k1, k2, k3, k4, k5, k6, k7, k8, k9, k10, k11, k12, k13, k14⟩ := hH
            go_wp2_with fail
            with_reducible refine (BA.call _).mono ?_
            rintro r wq2 ⟨rfl, hbq⟩
            have hH := held5_below ⟨k1, k2, k3, k4, k5, k6, k7, k8, k9, k10, k11, k12, k13, k14⟩ hbq
            clear hbq k1 k2 k3 k4 k5 k6 k7 k8 k9 k10 k11 k12 k13 k14
            obtain ⟨k1, k2, k3, k4, k5, k6, k7, k8, k9, k10, k11, k12, k13, k14⟩ := hH
            go_wp2_with fail
            with_reducible refine (AB.call _).mono ?_
            rintro r wq3 ⟨rfl, hbq⟩
            have hH := held5_below ⟨k1, k2, k3, k4, k5, k6, k7, k8, k9, k10, k11, k12, k13, k14⟩ hbq
            clear hbq k1 k2 k3 k4 k5 k6 k7 k8 k9 k10 k11 k12 k13 k14
            obtain ⟨k1, k2, k3, k4, k5, k6, k7, k8, k9, k10, k11, k12, k13, k14⟩ := hH
            go_wp2_with fail
            with_reducible refine (BC.call _).mono ?_
            rintro r wq4 ⟨rfl, hbq⟩
            have hH := held5_below ⟨k1, k2, k3, k4, k5, k6, k7, k8, k9, k10, k11, k12, k13, k14⟩ hbq
            clear hbq k1 k2 k3 k4 k5 k6 k7 k8 k9 k10 k11 k12 k13 k14
            obtain ⟨k1, k2, k3, k4, k5, k6, k7, k8, k9, k10, k11, k12, k13, k14⟩ := hH
            go_wp2_with fail
            go_meet
            exact ⟨rfl, k1, k2, k3, k4, k5, k6, k7, k8, k9, k10, k11, k12, k13, k14⟩
          · obtain rfl := htr rfl rfl
            obtain ⟨k1, k2, k3, k4, k5, k6, k7, k8, k9, k10, k11, k12, k13, k14⟩ := hH
            go_wp2_with fail
            with_reducible refine (AA.call _).mono ?_
            rintro r wq0 ⟨rfl, hbq⟩
            have hH := held5_below ⟨k1, k2, k3, k4, k5, k6, k7, k8, k9, k10, k11, k12, k13, k14⟩ hbq
            clear hbq k1 k2 k3 k4 k5 k6 k7 k8 k9 k10 k11 k12 k13 k14
            obtain ⟨k1, k2, k3, k4, k5, k6, k7, k8, k9, k10, k11, k12, k13, k14⟩ := hH
            go_wp2_with fail
            with_reducible refine (AB.call _).mono ?_
            rintro r wq1 ⟨rfl, hbq⟩
            have hH := held5_below ⟨k1, k2, k3, k4, k5, k6, k7, k8, k9, k10, k11, k12, k13, k14⟩ hbq
            clear hbq k1 k2 k3 k4 k5 k6 k7 k8 k9 k10 k11 k12 k13 k14
            obtain ⟨k1, k2, k3, k4, k5, k6, k7, k8, k9, k10, k11, k12, k13, k14⟩ := hH
            go_wp2_with fail
            with_reducible refine (BA.call _).mono ?_
            rintro r wq2 ⟨rfl, hbq⟩
            have hH := held5_below ⟨k1, k2, k3, k4, k5, k6, k7, k8, k9, k10, k11, k12, k13, k14⟩ hbq
            clear hbq k1 k2 k3 k4 k5 k6 k7 k8 k9 k10 k11 k12 k13 k14
            obtain ⟨k1, k2, k3, k4, k5, k6, k7, k8, k9, k10, k11, k12, k13, k14⟩ := hH
            go_wp2_with fail
            with_reducible refine (AB.call _).mono ?_
            rintro r wq3 ⟨rfl, hbq⟩
            have hH := held5_below ⟨k1, k2, k3, k4, k5, k6, k7, k8, k9, k10, k11, k12, k13, k14⟩ hbq
            clear hbq k1 k2 k3 k4 k5 k6 k7 k8 k9 k10 k11 k12 k13 k14
            obtain ⟨k1, k2, k3, k4, k5, k6, k7, k8, k9, k10, k11, k12, k13, k14⟩ := hH
            go_wp2_with fail
            with_reducible refine (BC.call _).mono ?_
            rintro r wq4 ⟨rfl, hbq⟩
            have hH := held5_below ⟨k1, k2, k3, k4, k5, k6, k7, k8, k9, k10, k11, k12, k13, k14⟩ hbq
            clear hbq k1 k2 k3 k4 k5 k6 k7 k8 k9 k10 k11 k12 k13 k14
            obtain ⟨k1, k2, k3, k4, k5, k6, k7, k8, k9, k10, k11, k12, k13, k14⟩ := hH
            go_wp2_with fail
            with_reducible refine (AC.call _).mono ?_
            rintro r wq5 ⟨rfl, hbq⟩
            have hH := held5_below ⟨k1, k2, k3, k4, k5, k6, k7, k8, k9, k10, k11, k12, k13, k14⟩ hbq
            clear hbq k1 k2 k3 k4 k5 k6 k7 k8 k9 k10 k11 k12 k13 k14
            obtain ⟨k1, k2, k3, k4, k5, k6, k7, k8, k9, k10, k11, k12, k13, k14⟩ := hH
            go_wp2_with fail
            go_meet
            exact ⟨rfl, k1, k2, k3, k4, k5, k6, k7, k8, k9, k10, k11, k12, k13, k14⟩
        · obtain ⟨el, ec⟩ := heq rfl rfl
          subst el ec
          cases bc
          · skip
            obtain ⟨k1, k2, k3, k4, k5, k6, k7, k8, k9, k10, k11, k12, k13, k14⟩ := hH
            go_wp2_with fail
            with_reducible refine (AA.call _).mono ?_
            rintro r wq0 ⟨rfl, hbq⟩
            have hH := held5_below ⟨k1, k2, k3, k4, k5, k6, k7, k8, k9, k10, k11, k12, k13, k14⟩ hbq
            clear hbq k1 k2 k3 k4 k5 k6 k7 k8 k9 k10 k11 k12 k13 k14
            obtain ⟨k1, k2, k3, k4, k5, k6, k7, k8, k9, k10, k11, k12, k13, k14⟩ := hH
            go_wp2_with fail
            with_reducible refine (AB.call _).mono ?_
            rintro r wq1 ⟨rfl, hbq⟩
            have hH := held5_below ⟨k1, k2, k3, k4, k5, k6, k7, k8, k9, k10, k11, k12, k13, k14⟩ hbq
            clear hbq k1 k2 k3 k4 k5 k6 k7 k8 k9 k10 k11 k12 k13 k14
            obtain ⟨k1, k2, k3, k4, k5, k6, k7, k8, k9, k10, k11, k12, k13, k14⟩ := hH
            go_wp2_with fail
            with_reducible refine (BA.call _).mono ?_
            rintro r wq2 ⟨rfl, hbq⟩
            have hH := held5_below ⟨k1, k2, k3, k4, k5, k6, k7, k8, k9, k10, k11, k12, k13, k14⟩ hbq
            clear hbq k1 k2 k3 k4 k5 k6 k7 k8 k9 k10 k11 k12 k13 k14
            obtain ⟨k1, k2, k3, k4, k5, k6, k7, k8, k9, k10, k11, k12, k13, k14⟩ := hH
            go_wp2_with fail
            with_reducible refine (AB.call _).mono ?_
            rintro r wq3 ⟨rfl, hbq⟩
            have hH := held5_below ⟨k1, k2, k3, k4, k5, k6, k7, k8, k9, k10, k11, k12, k13, k14⟩ hbq
            clear hbq k1 k2 k3 k4 k5 k6 k7 k8 k9 k10 k11 k12 k13 k14
            obtain ⟨k1, k2, k3, k4, k5, k6, k7, k8, k9, k10, k11, k12, k13, k14⟩ := hH
            go_wp2_with fail
            with_reducible refine (BC.call _).mono ?_
            rintro r wq4 ⟨rfl, hbq⟩
            have hH := held5_below ⟨k1, k2, k3, k4, k5, k6, k7, k8, k9, k10, k11, k12, k13, k14⟩ hbq
            clear hbq k1 k2 k3 k4 k5 k6 k7 k8 k9 k10 k11 k12 k13 k14
            obtain ⟨k1, k2, k3, k4, k5, k6, k7, k8, k9, k10, k11, k12, k13, k14⟩ := hH
            go_wp2_with fail
            go_meet
            exact ⟨rfl, k1, k2, k3, k4, k5, k6, k7, k8, k9, k10, k11, k12, k13, k14⟩
          · obtain rfl := htr rfl rfl
            obtain ⟨k1, k2, k3, k4, k5, k6, k7, k8, k9, k10, k11, k12, k13, k14⟩ := hH
            go_wp2_with fail
            with_reducible refine (AA.call _).mono ?_
            rintro r wq0 ⟨rfl, hbq⟩
            have hH := held5_below ⟨k1, k2, k3, k4, k5, k6, k7, k8, k9, k10, k11, k12, k13, k14⟩ hbq
            clear hbq k1 k2 k3 k4 k5 k6 k7 k8 k9 k10 k11 k12 k13 k14
            obtain ⟨k1, k2, k3, k4, k5, k6, k7, k8, k9, k10, k11, k12, k13, k14⟩ := hH
            go_wp2_with fail
            with_reducible refine (AB.call _).mono ?_
            rintro r wq1 ⟨rfl, hbq⟩
            have hH := held5_below ⟨k1, k2, k3, k4, k5, k6, k7, k8, k9, k10, k11, k12, k13, k14⟩ hbq
            clear hbq k1 k2 k3 k4 k5 k6 k7 k8 k9 k10 k11 k12 k13 k14
            obtain ⟨k1, k2, k3, k4, k5, k6, k7, k8, k9, k10, k11, k12, k13, k14⟩ := hH
            go_wp2_with fail
            with_reducible refine (BA.call _).mono ?_
            rintro r wq2 ⟨rfl, hbq⟩
            have hH := held5_below ⟨k1, k2, k3, k4, k5, k6, k7, k8, k9, k10, k11, k12, k13, k14⟩ hbq
            clear hbq k1 k2 k3 k4 k5 k6 k7 k8 k9 k10 k11 k12 k13 k14
            obtain ⟨k1, k2, k3, k4, k5, k6, k7, k8, k9, k10, k11, k12, k13, k14⟩ := hH
            go_wp2_with fail
            with_reducible refine (AB.call _).mono ?_
            rintro r wq3 ⟨rfl, hbq⟩
            have hH := held5_below ⟨k1, k2, k3, k4, k5, k6, k7, k8, k9, k10, k11, k12, k13, k14⟩ hbq
            clear hbq k1 k2 k3 k4 k5 k6 k7 k8 k9 k10 k11 k12 k13 k14
            obtain ⟨k1, k2, k3, k4, k5, k6, k7, k8, k9, k10, k11, k12, k13, k14⟩ := hH
            go_wp2_with fail
            with_reducible refine (BC.call _).mono ?_
            rintro r wq4 ⟨rfl, hbq⟩
            have hH := held5_below ⟨k1, k2, k3, k4, k5, k6, k7, k8, k9, k10, k11, k12, k13, k14⟩ hbq
            clear hbq k1 k2 k3 k4 k5 k6 k7 k8 k9 k10 k11 k12 k13 k14
            obtain ⟨k1, k2, k3, k4, k5, k6, k7, k8, k9, k10, k11, k12, k13, k14⟩ := hH
            go_wp2_with fail
            with_reducible refine (AC.call _).mono ?_
            rintro r wq5 ⟨rfl, hbq⟩
            have hH := held5_below ⟨k1, k2, k3, k4, k5, k6, k7, k8, k9, k10, k11, k12, k13, k14⟩ hbq
            clear hbq k1 k2 k3 k4 k5 k6 k7 k8 k9 k10 k11 k12 k13 k14
            obtain ⟨k1, k2, k3, k4, k5, k6, k7, k8, k9, k10, k11, k12, k13, k14⟩ := hH
            go_wp2_with fail
            go_meet
            exact ⟨rfl, k1, k2, k3, k4, k5, k6, k7, k8, k9, k10, k11, k12, k13, k14⟩
    case rest =>
      obtain ⟨rfl, hH⟩ := hcut
      clear AA AB BA heq htr
      go_upto_region 4 with fail
      go_cut [75] (fun s wx => s = .bool false ∧ Held5 w l c m d n e g j x h k y wx)
      case first =>
        clear MA MB CA CB CM RA ZA AT HT
        cases ac
        · skip
          obtain ⟨k1, k2, k3, k4, k5, k6, k7, k8, k9, k10, k11, k12, k13, k14⟩ := hH
          go_wp2_with fail
          with_reducible refine (AJ.call _).mono ?_
          rintro r wq0 ⟨rfl, hbq⟩
          have hH := held5_below ⟨k1, k2, k3, k4, k5, k6, k7, k8, k9, k10, k11, k12, k13, k14⟩ hbq
          clear hbq k1 k2 k3 k4 k5 k6 k7 k8 k9 k10 k11 k12 k13 k14
          obtain ⟨k1, k2, k3, k4, k5, k6, k7, k8, k9, k10, k11, k12, k13, k14⟩ := hH
          go_wp2_with fail
          with_reducible refine (BJ.call _).mono ?_
          rintro r wq1 ⟨rfl, hbq⟩
          have hH := held5_below ⟨k1, k2, k3, k4, k5, k6, k7, k8, k9, k10, k11, k12, k13, k14⟩ hbq
          clear hbq k1 k2 k3 k4 k5 k6 k7 k8 k9 k10 k11 k12 k13 k14
          obtain ⟨k1, k2, k3, k4, k5, k6, k7, k8, k9, k10, k11, k12, k13, k14⟩ := hH
          go_wp2_with fail
          with_reducible refine (AC.call _).mono ?_
          rintro r wq2 ⟨rfl, hbq⟩
          have hH := held5_below ⟨k1, k2, k3, k4, k5, k6, k7, k8, k9, k10, k11, k12, k13, k14⟩ hbq
          clear hbq k1 k2 k3 k4 k5 k6 k7 k8 k9 k10 k11 k12 k13 k14
          obtain ⟨k1, k2, k3, k4, k5, k6, k7, k8, k9, k10, k11, k12, k13, k14⟩ := hH
          go_wp2_with fail
          go_meet
          exact ⟨rfl, k1, k2, k3, k4, k5, k6, k7, k8, k9, k10, k11, k12, k13, k14⟩
        · cases bc
          · skip
            obtain ⟨k1, k2, k3, k4, k5, k6, k7, k8, k9, k10, k11, k12, k13, k14⟩ := hH
            go_wp2_with fail
            with_reducible refine (AJ.call _).mono ?_
            rintro r wq0 ⟨rfl, hbq⟩
            have hH := held5_below ⟨k1, k2, k3, k4, k5, k6, k7, k8, k9, k10, k11, k12, k13, k14⟩ hbq
            clear hbq k1 k2 k3 k4 k5 k6 k7 k8 k9 k10 k11 k12 k13 k14
            obtain ⟨k1, k2, k3, k4, k5, k6, k7, k8, k9, k10, k11, k12, k13, k14⟩ := hH
            go_wp2_with fail
            with_reducible refine (BJ.call _).mono ?_
            rintro r wq1 ⟨rfl, hbq⟩
            have hH := held5_below ⟨k1, k2, k3, k4, k5, k6, k7, k8, k9, k10, k11, k12, k13, k14⟩ hbq
            clear hbq k1 k2 k3 k4 k5 k6 k7 k8 k9 k10 k11 k12 k13 k14
            obtain ⟨k1, k2, k3, k4, k5, k6, k7, k8, k9, k10, k11, k12, k13, k14⟩ := hH
            go_wp2_with fail
            with_reducible refine (AC.call _).mono ?_
            rintro r wq2 ⟨rfl, hbq⟩
            have hH := held5_below ⟨k1, k2, k3, k4, k5, k6, k7, k8, k9, k10, k11, k12, k13, k14⟩ hbq
            clear hbq k1 k2 k3 k4 k5 k6 k7 k8 k9 k10 k11 k12 k13 k14
            obtain ⟨k1, k2, k3, k4, k5, k6, k7, k8, k9, k10, k11, k12, k13, k14⟩ := hH
            go_wp2_with fail
            with_reducible refine (BC.call _).mono ?_
            rintro r wq3 ⟨rfl, hbq⟩
            have hH := held5_below ⟨k1, k2, k3, k4, k5, k6, k7, k8, k9, k10, k11, k12, k13, k14⟩ hbq
            clear hbq k1 k2 k3 k4 k5 k6 k7 k8 k9 k10 k11 k12 k13 k14
            obtain ⟨k1, k2, k3, k4, k5, k6, k7, k8, k9, k10, k11, k12, k13, k14⟩ := hH
            go_wp2_with fail
            go_meet
            exact ⟨rfl, k1, k2, k3, k4, k5, k6, k7, k8, k9, k10, k11, k12, k13, k14⟩
          · have HC := JC rfl rfl
            obtain ⟨k1, k2, k3, k4, k5, k6, k7, k8, k9, k10, k11, k12, k13, k14⟩ := hH
            go_wp2_with fail
            with_reducible refine (AJ.call _).mono ?_
            rintro r wq0 ⟨rfl, hbq⟩
            have hH := held5_below ⟨k1, k2, k3, k4, k5, k6, k7, k8, k9, k10, k11, k12, k13, k14⟩ hbq
            clear hbq k1 k2 k3 k4 k5 k6 k7 k8 k9 k10 k11 k12 k13 k14
            obtain ⟨k1, k2, k3, k4, k5, k6, k7, k8, k9, k10, k11, k12, k13, k14⟩ := hH
            go_wp2_with fail
            with_reducible refine (BJ.call _).mono ?_
            rintro r wq1 ⟨rfl, hbq⟩
            have hH := held5_below ⟨k1, k2, k3, k4, k5, k6, k7, k8, k9, k10, k11, k12, k13, k14⟩ hbq
            clear hbq k1 k2 k3 k4 k5 k6 k7 k8 k9 k10 k11 k12 k13 k14
            obtain ⟨k1, k2, k3, k4, k5, k6, k7, k8, k9, k10, k11, k12, k13, k14⟩ := hH
            go_wp2_with fail
            with_reducible refine (AC.call _).mono ?_
            rintro r wq2 ⟨rfl, hbq⟩
            have hH := held5_below ⟨k1, k2, k3, k4, k5, k6, k7, k8, k9, k10, k11, k12, k13, k14⟩ hbq
            clear hbq k1 k2 k3 k4 k5 k6 k7 k8 k9 k10 k11 k12 k13 k14
            obtain ⟨k1, k2, k3, k4, k5, k6, k7, k8, k9, k10, k11, k12, k13, k14⟩ := hH
            go_wp2_with fail
            with_reducible refine (BC.call _).mono ?_
            rintro r wq3 ⟨rfl, hbq⟩
            have hH := held5_below ⟨k1, k2, k3, k4, k5, k6, k7, k8, k9, k10, k11, k12, k13, k14⟩ hbq
            clear hbq k1 k2 k3 k4 k5 k6 k7 k8 k9 k10 k11 k12 k13 k14
            obtain ⟨k1, k2, k3, k4, k5, k6, k7, k8, k9, k10, k11, k12, k13, k14⟩ := hH
            go_wp2_with fail
            with_reducible refine (HC.call _).mono ?_
            rintro r wq4 ⟨rfl, hbq⟩
            have hH := held5_below ⟨k1, k2, k3, k4, k5, k6, k7, k8, k9, k10, k11, k12, k13, k14⟩ hbq
            clear hbq k1 k2 k3 k4 k5 k6 k7 k8 k9 k10 k11 k12 k13 k14
            obtain ⟨k1, k2, k3, k4, k5, k6, k7, k8, k9, k10, k11, k12, k13, k14⟩ := hH
            go_wp2_with fail
            go_meet
            exact ⟨rfl, k1, k2, k3, k4, k5, k6, k7, k8, k9, k10, k11, k12, k13, k14⟩
      case rest =>
        obtain ⟨rfl, hH⟩ := hcut
        clear AJ BJ JC AC BC
        go_upto_region 6 with fail
        go_cut [101] (fun s wx => s = .bool false ∧ Held5 w l c m d n e g j x h k y wx)
        case first =>
          clear RA ZA AT HT
          cases ca
          · skip
            obtain ⟨k1, k2, k3, k4, k5, k6, k7, k8, k9, k10, k11, k12, k13, k14⟩ := hH
            go_wp2_with fail
            with_reducible refine (MA.call _).mono ?_
            rintro r wq0 ⟨rfl, hbq⟩
            have hH := held5_below ⟨k1, k2, k3, k4, k5, k6, k7, k8, k9, k10, k11, k12, k13, k14⟩ hbq
            clear hbq k1 k2 k3 k4 k5 k6 k7 k8 k9 k10 k11 k12 k13 k14
            obtain ⟨k1, k2, k3, k4, k5, k6, k7, k8, k9, k10, k11, k12, k13, k14⟩ := hH
            go_wp2_with fail
            with_reducible refine (MB.call _).mono ?_
            rintro r wq1 ⟨rfl, hbq⟩
            have hH := held5_below ⟨k1, k2, k3, k4, k5, k6, k7, k8, k9, k10, k11, k12, k13, k14⟩ hbq
            clear hbq k1 k2 k3 k4 k5 k6 k7 k8 k9 k10 k11 k12 k13 k14
            obtain ⟨k1, k2, k3, k4, k5, k6, k7, k8, k9, k10, k11, k12, k13, k14⟩ := hH
            go_wp2_with fail
            with_reducible refine (CA.call _).mono ?_
            rintro r wq2 ⟨rfl, hbq⟩
            have hH := held5_below ⟨k1, k2, k3, k4, k5, k6, k7, k8, k9, k10, k11, k12, k13, k14⟩ hbq
            clear hbq k1 k2 k3 k4 k5 k6 k7 k8 k9 k10 k11 k12 k13 k14
            obtain ⟨k1, k2, k3, k4, k5, k6, k7, k8, k9, k10, k11, k12, k13, k14⟩ := hH
            go_wp2_with fail
            go_meet
            exact ⟨rfl, k1, k2, k3, k4, k5, k6, k7, k8, k9, k10, k11, k12, k13, k14⟩
          · cases cb
            · skip
              obtain ⟨k1, k2, k3, k4, k5, k6, k7, k8, k9, k10, k11, k12, k13, k14⟩ := hH
              go_wp2_with fail
              with_reducible refine (MA.call _).mono ?_
              rintro r wq0 ⟨rfl, hbq⟩
              have hH := held5_below ⟨k1, k2, k3, k4, k5, k6, k7, k8, k9, k10, k11, k12, k13, k14⟩ hbq
              clear hbq k1 k2 k3 k4 k5 k6 k7 k8 k9 k10 k11 k12 k13 k14
              obtain ⟨k1, k2, k3, k4, k5, k6, k7, k8, k9, k10, k11, k12, k13, k14⟩ := hH
              go_wp2_with fail
              with_reducible refine (MB.call _).mono ?_
              rintro r wq1 ⟨rfl, hbq⟩
              have hH := held5_below ⟨k1, k2, k3, k4, k5, k6, k7, k8, k9, k10, k11, k12, k13, k14⟩ hbq
              clear hbq k1 k2 k3 k4 k5 k6 k7 k8 k9 k10 k11 k12 k13 k14
              obtain ⟨k1, k2, k3, k4, k5, k6, k7, k8, k9, k10, k11, k12, k13, k14⟩ := hH
              go_wp2_with fail
              with_reducible refine (CA.call _).mono ?_
              rintro r wq2 ⟨rfl, hbq⟩
              have hH := held5_below ⟨k1, k2, k3, k4, k5, k6, k7, k8, k9, k10, k11, k12, k13, k14⟩ hbq
              clear hbq k1 k2 k3 k4 k5 k6 k7 k8 k9 k10 k11 k12 k13 k14
              obtain ⟨k1, k2, k3, k4, k5, k6, k7, k8, k9, k10, k11, k12, k13, k14⟩ := hH
              go_wp2_with fail
              with_reducible refine (CB.call _).mono ?_
              rintro r wq3 ⟨rfl, hbq⟩
              have hH := held5_below ⟨k1, k2, k3, k4, k5, k6, k7, k8, k9, k10, k11, k12, k13, k14⟩ hbq
              clear hbq k1 k2 k3 k4 k5 k6 k7 k8 k9 k10 k11 k12 k13 k14
              obtain ⟨k1, k2, k3, k4, k5, k6, k7, k8, k9, k10, k11, k12, k13, k14⟩ := hH
              go_wp2_with fail
              go_meet
              exact ⟨rfl, k1, k2, k3, k4, k5, k6, k7, k8, k9, k10, k11, k12, k13, k14⟩
            · have HC := CM rfl rfl
              obtain ⟨k1, k2, k3, k4, k5, k6, k7, k8, k9, k10, k11, k12, k13, k14⟩ := hH
              go_wp2_with fail
              with_reducible refine (MA.call _).mono ?_
              rintro r wq0 ⟨rfl, hbq⟩
              have hH := held5_below ⟨k1, k2, k3, k4, k5, k6, k7, k8, k9, k10, k11, k12, k13, k14⟩ hbq
              clear hbq k1 k2 k3 k4 k5 k6 k7 k8 k9 k10 k11 k12 k13 k14
              obtain ⟨k1, k2, k3, k4, k5, k6, k7, k8, k9, k10, k11, k12, k13, k14⟩ := hH
              go_wp2_with fail
              with_reducible refine (MB.call _).mono ?_
              rintro r wq1 ⟨rfl, hbq⟩
              have hH := held5_below ⟨k1, k2, k3, k4, k5, k6, k7, k8, k9, k10, k11, k12, k13, k14⟩ hbq
              clear hbq k1 k2 k3 k4 k5 k6 k7 k8 k9 k10 k11 k12 k13 k14
              obtain ⟨k1, k2, k3, k4, k5, k6, k7, k8, k9, k10, k11, k12, k13, k14⟩ := hH
              go_wp2_with fail
              with_reducible refine (CA.call _).mono ?_
              rintro r wq2 ⟨rfl, hbq⟩
              have hH := held5_below ⟨k1, k2, k3, k4, k5, k6, k7, k8, k9, k10, k11, k12, k13, k14⟩ hbq
              clear hbq k1 k2 k3 k4 k5 k6 k7 k8 k9 k10 k11 k12 k13 k14
              obtain ⟨k1, k2, k3, k4, k5, k6, k7, k8, k9, k10, k11, k12, k13, k14⟩ := hH
              go_wp2_with fail
              with_reducible refine (CB.call _).mono ?_
              rintro r wq3 ⟨rfl, hbq⟩
              have hH := held5_below ⟨k1, k2, k3, k4, k5, k6, k7, k8, k9, k10, k11, k12, k13, k14⟩ hbq
              clear hbq k1 k2 k3 k4 k5 k6 k7 k8 k9 k10 k11 k12 k13 k14
              obtain ⟨k1, k2, k3, k4, k5, k6, k7, k8, k9, k10, k11, k12, k13, k14⟩ := hH
              go_wp2_with fail
              with_reducible refine (HC.call _).mono ?_
              rintro r wq4 ⟨rfl, hbq⟩
              have hH := held5_below ⟨k1, k2, k3, k4, k5, k6, k7, k8, k9, k10, k11, k12, k13, k14⟩ hbq
              clear hbq k1 k2 k3 k4 k5 k6 k7 k8 k9 k10 k11 k12 k13 k14
              obtain ⟨k1, k2, k3, k4, k5, k6, k7, k8, k9, k10, k11, k12, k13, k14⟩ := hH
              go_wp2_with fail
              go_meet
              exact ⟨rfl, k1, k2, k3, k4, k5, k6, k7, k8, k9, k10, k11, k12, k13, k14⟩
        case rest =>
          obtain ⟨rfl, hH⟩ := hcut
          clear MA MB CA CB CM
          go_upto_region 8 with fail
          cases ra
          · skip
            refine wp_region_held_drew (S := (fun w' => w'.cell? ⟨w.heap.size, 0, none⟩ = some (.int .i64 l) ∧ w'.cell? ⟨w.heap.size, 1, none⟩ = some (.int .u64 (c : Int)) ∧ w'.cell? ⟨w.heap.size + 1, 0, none⟩ = some (.int .i64 m) ∧ w'.cell? ⟨w.heap.size + 1, 1, none⟩ = some (.int .u64 (d : Int)) ∧ w'.cell? ⟨w.heap.size + 1 + 1, 0, none⟩ = some (.int .i64 n) ∧ w'.cell? ⟨w.heap.size + 1 + 1, 1, none⟩ = some (.int .u64 (e : Int)) ∧ w'.cell? ⟨g, 0, none⟩ = some (.int .i64 j) ∧ w'.cell? ⟨g, 1, none⟩ = some (.int .u64 (x : Int)) ∧ w'.cell? ⟨h, 0, none⟩ = some (.int .i64 k) ∧ w'.cell? ⟨h, 1, none⟩ = some (.int .u64 (y : Int)) ∧ w.heap.size + 3 ≤ w'.heap.size ∧ g < w'.heap.size ∧ h < w'.heap.size ∧ Below w.heap.size w w')) (by kernel_rfl) (h5_drew hH) (fun hH0 => ?_)
            refine wpAnyH_ready (rs := [0]) (by kernel_rfl) (by simp) ?_
            refine AllReadyH.cons (o := { dst := some 102, op := Go.Op.call { callee := Go.Callee.value (Go.Operand.func 31), args := #[], argTypes := #[] }, type := 4, pos := "law.go:35", after := #[], guard := none }) rfl (fun K hK => ?_) AllReadyH.nil
            go_simp
            with_reducible refine (live2 _ (held5_tab HT.out hH0)).mono ?_
            rintro r wq1 ⟨rfl, hbq⟩
            go_wp2_with fail
            refine hK.out _ _ (held5_below hH0 hbq) (fun hH1 => ?_)
            clear hK K hbq hH0
            refine wpAnyH_take (i := 1) (oi := { dst := some 103, op := Go.Op.move (Go.Operand.tmp 102), type := 4, pos := "law.go:35", after := #[{ on := 0, ground := Go.Ground.data }, { on := 0, ground := Go.Ground.chain }], guard := none }) (v := ?_) rfl (by kernel_rfl) (by kernel_rfl) (by kernel_rfl) (fun _ _ _ h => h) (Or.inl ⟨by rfl, ?_⟩) hH1 ?_
            rotate_left
            · (intro wz hSz; (try dsimp only at hSz); go_simp; try with_reducible rfl)
            simp only [Act.put, List.setIfInBounds_toArray, List.set_cons_zero, List.set_cons_succ]
            refine wpAnyH_take (i := 2) (oi := { dst := some 104, op := Go.Op.load 40 (Go.Operand.tmp 3), type := 40, pos := "law.go:35", after := #[{ on := 1, ground := Go.Ground.guard }], guard := some (1, true) }) (v := ?_) rfl (by kernel_rfl) (by kernel_rfl) (by kernel_rfl) (fun _ _ _ h => h) (Or.inl ⟨by rfl, ?_⟩) hH1 ?_
            rotate_left
            · (intro wz hSz; (try dsimp only at hSz); go_simp; try with_reducible rfl)
            simp only [Act.put, List.setIfInBounds_toArray, List.set_cons_zero, List.set_cons_succ]
            refine wpAnyH_ready (rs := [3]) (by kernel_rfl) (by simp) ?_
            refine AllReadyH.cons (o := { dst := some 105, op := Go.Op.call { callee := Go.Callee.value (Go.Operand.func 32), args := #[Go.Operand.tmp 104], argTypes := #[40] }, type := 4, pos := "law.go:35", after := #[{ on := 2, ground := Go.Ground.data }, { on := 1, ground := Go.Ground.chain }, { on := 1, ground := Go.Ground.guard }], guard := some (1, true) }) rfl (fun K hK => ?_) AllReadyH.nil
            go_simp
            with_reducible refine (RA.call _).mono ?_
            rintro r wq2 ⟨rfl, hbq⟩
            go_wp2_with fail
            refine hK.out _ _ (held5_below hH1 hbq) (fun hH2 => ?_)
            clear hK K hbq hH1
            refine wpAnyH_take (i := 4) (oi := { dst := some 106, op := Go.Op.unOp Go.UnOp.not 4 (Go.Operand.tmp 105), type := 4, pos := "law.go:35", after := #[{ on := 3, ground := Go.Ground.data }, { on := 1, ground := Go.Ground.guard }], guard := some (1, true) }) (v := ?_) rfl (by kernel_rfl) (by kernel_rfl) (by kernel_rfl) (fun _ _ _ h => h) (Or.inl ⟨by rfl, ?_⟩) hH2 ?_
            rotate_left
            · (intro wz hSz; (try dsimp only at hSz); go_simp; try with_reducible rfl)
            simp only [Act.put, List.setIfInBounds_toArray, List.set_cons_zero, List.set_cons_succ]
            refine wpAnyH_take (i := 5) (oi := { dst := some 107, op := Go.Op.move (Go.Operand.tmp 106), type := 4, pos := "law.go:35", after := #[{ on := 4, ground := Go.Ground.data }, { on := 3, ground := Go.Ground.chain }, { on := 1, ground := Go.Ground.guard }], guard := some (1, true) }) (v := ?_) rfl (by kernel_rfl) (by kernel_rfl) (by kernel_rfl) (fun _ _ _ h => h) (Or.inl ⟨by rfl, ?_⟩) hH2 ?_
            rotate_left
            · (intro wz hSz; (try dsimp only at hSz); go_simp; try with_reducible rfl)
            simp only [Act.put, List.setIfInBounds_toArray, List.set_cons_zero, List.set_cons_succ]
            refine wpAnyH_take (i := 6) (oi := { dst := some 108, op := Go.Op.build 40 #[], type := 40, pos := "law.go:35", after := #[{ on := 5, ground := Go.Ground.guard }], guard := some (5, false) }) (v := undef) rfl (by kernel_rfl) (by kernel_rfl) (by kernel_rfl) (fun _ _ _ h => h) (Or.inr ⟨by rfl, rfl⟩) hH2 ?_
            simp only [Act.put, List.setIfInBounds_toArray, List.set_cons_zero, List.set_cons_succ]
            refine wpAnyH_take (i := 7) (oi := { dst := some 109, op := Go.Op.load 40 (Go.Operand.tmp 3), type := 40, pos := "law.go:35", after := #[{ on := 5, ground := Go.Ground.guard }], guard := some (5, false) }) (v := undef) rfl (by kernel_rfl) (by kernel_rfl) (by kernel_rfl) (fun _ _ _ h => h) (Or.inr ⟨by rfl, rfl⟩) hH2 ?_
            simp only [Act.put, List.setIfInBounds_toArray, List.set_cons_zero, List.set_cons_succ]
            refine wpAnyH_take (i := 8) (oi := { dst := some 110, op := Go.Op.call { callee := Go.Callee.value (Go.Operand.func 34), args := #[Go.Operand.tmp 108, Go.Operand.tmp 109], argTypes := #[40, 40] }, type := 4, pos := "law.go:35", after := #[{ on := 6, ground := Go.Ground.data }, { on := 7, ground := Go.Ground.data }, { on := 5, ground := Go.Ground.chain }, { on := 5, ground := Go.Ground.guard }], guard := some (5, false) }) (v := undef) rfl (by kernel_rfl) (by kernel_rfl) (by kernel_rfl) (fun _ _ _ h => h) (Or.inr ⟨by rfl, rfl⟩) hH2 ?_
            simp only [Act.put, List.setIfInBounds_toArray, List.set_cons_zero, List.set_cons_succ]
            refine wpAnyH_take (i := 9) (oi := { dst := some 111, op := Go.Op.move (Go.Operand.tmp 110), type := 4, pos := "law.go:35", after := #[{ on := 8, ground := Go.Ground.data }, { on := 8, ground := Go.Ground.chain }, { on := 5, ground := Go.Ground.guard }], guard := some (5, false) }) (v := undef) rfl (by kernel_rfl) (by kernel_rfl) (by kernel_rfl) (fun _ _ _ h => h) (Or.inr ⟨by rfl, rfl⟩) hH2 ?_
            simp only [Act.put, List.setIfInBounds_toArray, List.set_cons_zero, List.set_cons_succ]
            refine wpAnyH_take (i := 10) (oi := { dst := some 112, op := Go.Op.load 40 (Go.Operand.tmp 3), type := 40, pos := "law.go:35", after := #[{ on := 9, ground := Go.Ground.guard }], guard := some (9, true) }) (v := undef) rfl (by kernel_rfl) (by kernel_rfl) (by kernel_rfl) (fun _ _ _ h => h) (Or.inr ⟨by rfl, rfl⟩) hH2 ?_
            simp only [Act.put, List.setIfInBounds_toArray, List.set_cons_zero, List.set_cons_succ]
            refine wpAnyH_take (i := 11) (oi := { dst := some 113, op := Go.Op.call { callee := Go.Callee.value (Go.Operand.func 40), args := #[], argTypes := #[] }, type := 40, pos := "law.go:35", after := #[{ on := 9, ground := Go.Ground.chain }, { on := 9, ground := Go.Ground.guard }], guard := some (9, true) }) (v := undef) rfl (by kernel_rfl) (by kernel_rfl) (by kernel_rfl) (fun _ _ _ h => h) (Or.inr ⟨by rfl, rfl⟩) hH2 ?_
            simp only [Act.put, List.setIfInBounds_toArray, List.set_cons_zero, List.set_cons_succ]
            refine wpAnyH_take (i := 12) (oi := { dst := some 114, op := Go.Op.call { callee := Go.Callee.value (Go.Operand.func 34), args := #[Go.Operand.tmp 112, Go.Operand.tmp 113], argTypes := #[40, 40] }, type := 4, pos := "law.go:35", after := #[{ on := 10, ground := Go.Ground.data }, { on := 11, ground := Go.Ground.data }, { on := 11, ground := Go.Ground.chain }, { on := 9, ground := Go.Ground.guard }], guard := some (9, true) }) (v := undef) rfl (by kernel_rfl) (by kernel_rfl) (by kernel_rfl) (fun _ _ _ h => h) (Or.inr ⟨by rfl, rfl⟩) hH2 ?_
            simp only [Act.put, List.setIfInBounds_toArray, List.set_cons_zero, List.set_cons_succ]
            refine wpAnyH_take (i := 13) (oi := { dst := some 115, op := Go.Op.pick (Go.Operand.tmp 111) (Go.Operand.tmp 114) (Go.Operand.const (Go.Value.bool false)), type := 4, pos := "law.go:35", after := #[{ on := 9, ground := Go.Ground.data }, { on := 12, ground := Go.Ground.data }, { on := 5, ground := Go.Ground.guard }], guard := some (5, false) }) (v := undef) rfl (by kernel_rfl) (by kernel_rfl) (by kernel_rfl) (fun _ _ _ h => h) (Or.inr ⟨by rfl, rfl⟩) hH2 ?_
            simp only [Act.put, List.setIfInBounds_toArray, List.set_cons_zero, List.set_cons_succ]
            refine wpAnyH_take (i := 14) (oi := { dst := some 116, op := Go.Op.pick (Go.Operand.tmp 107) (Go.Operand.const (Go.Value.bool true)) (Go.Operand.tmp 115), type := 4, pos := "law.go:35", after := #[{ on := 5, ground := Go.Ground.data }, { on := 13, ground := Go.Ground.data }, { on := 1, ground := Go.Ground.guard }], guard := some (1, true) }) (v := ?_) rfl (by kernel_rfl) (by kernel_rfl) (by kernel_rfl) (fun _ _ _ h => h) (Or.inl ⟨by rfl, ?_⟩) hH2 ?_
            rotate_left
            · (intro wz hSz; (try dsimp only at hSz); go_simp; try with_reducible rfl)
            simp only [Act.put, List.setIfInBounds_toArray, List.set_cons_zero, List.set_cons_succ]
            refine wpAnyH_take (i := 15) (oi := { dst := some 117, op := Go.Op.pick (Go.Operand.tmp 103) (Go.Operand.tmp 116) (Go.Operand.const (Go.Value.bool false)), type := 4, pos := "law.go:35", after := #[{ on := 1, ground := Go.Ground.data }, { on := 14, ground := Go.Ground.data }], guard := none }) (v := ?_) rfl (by kernel_rfl) (by kernel_rfl) (by kernel_rfl) (fun _ _ _ h => h) (Or.inl ⟨by rfl, ?_⟩) hH2 ?_
            rotate_left
            · (intro wz hSz; (try dsimp only at hSz); go_simp; try with_reducible rfl)
            simp only [Act.put, List.setIfInBounds_toArray, List.set_cons_zero, List.set_cons_succ]
            refine wpAnyH_take (i := 16) (oi := { dst := some 6, op := Go.Op.assign (Go.Operand.tmp 117), type := 4, pos := "law.go:35", after := #[{ on := 15, ground := Go.Ground.data }, { on := 12, ground := Go.Ground.chain }, { on := 0, ground := Go.Ground.phase }, { on := 1, ground := Go.Ground.phase }, { on := 2, ground := Go.Ground.phase }, { on := 3, ground := Go.Ground.phase }, { on := 4, ground := Go.Ground.phase }, { on := 5, ground := Go.Ground.phase }, { on := 6, ground := Go.Ground.phase }, { on := 7, ground := Go.Ground.phase }, { on := 8, ground := Go.Ground.phase }, { on := 9, ground := Go.Ground.phase }, { on := 10, ground := Go.Ground.phase }, { on := 11, ground := Go.Ground.phase }, { on := 12, ground := Go.Ground.phase }, { on := 13, ground := Go.Ground.phase }, { on := 14, ground := Go.Ground.phase }, { on := 15, ground := Go.Ground.phase }], guard := none }) (v := ?_) rfl (by kernel_rfl) (by kernel_rfl) (by kernel_rfl) (fun _ _ _ h => h) (Or.inl ⟨by rfl, ?_⟩) hH2 ?_
            rotate_left
            · (intro wz hSz; (try dsimp only at hSz); go_simp; try with_reducible rfl)
            simp only [Act.put, List.setIfInBounds_toArray, List.set_cons_zero, List.set_cons_succ]
            refine wpAnyH_done (by kernel_rfl) ?_ _
            go_wp2_with fail
            go_ret
            exact ⟨rfl, h5_end hH2⟩
          · have HZ := ZA rfl
            have HU := AT rfl
            refine wp_region_held_drew (S := (fun w' => w'.cell? ⟨w.heap.size, 0, none⟩ = some (.int .i64 l) ∧ w'.cell? ⟨w.heap.size, 1, none⟩ = some (.int .u64 (c : Int)) ∧ w'.cell? ⟨w.heap.size + 1, 0, none⟩ = some (.int .i64 m) ∧ w'.cell? ⟨w.heap.size + 1, 1, none⟩ = some (.int .u64 (d : Int)) ∧ w'.cell? ⟨w.heap.size + 1 + 1, 0, none⟩ = some (.int .i64 n) ∧ w'.cell? ⟨w.heap.size + 1 + 1, 1, none⟩ = some (.int .u64 (e : Int)) ∧ w'.cell? ⟨g, 0, none⟩ = some (.int .i64 j) ∧ w'.cell? ⟨g, 1, none⟩ = some (.int .u64 (x : Int)) ∧ w'.cell? ⟨h, 0, none⟩ = some (.int .i64 k) ∧ w'.cell? ⟨h, 1, none⟩ = some (.int .u64 (y : Int)) ∧ w.heap.size + 3 ≤ w'.heap.size ∧ g < w'.heap.size ∧ h < w'.heap.size ∧ Below w.heap.size w w')) (by kernel_rfl) (h5_drew hH) (fun hH0 => ?_)
            refine wpAnyH_ready (rs := [0]) (by kernel_rfl) (by simp) ?_
            refine AllReadyH.cons (o := { dst := some 102, op := Go.Op.call { callee := Go.Callee.value (Go.Operand.func 31), args := #[], argTypes := #[] }, type := 4, pos := "law.go:35", after := #[], guard := none }) rfl (fun K hK => ?_) AllReadyH.nil
            go_simp
            with_reducible refine (live2 _ (held5_tab HT.out hH0)).mono ?_
            rintro r wq1 ⟨rfl, hbq⟩
            go_wp2_with fail
            refine hK.out _ _ (held5_below hH0 hbq) (fun hH1 => ?_)
            clear hK K hbq hH0
            refine wpAnyH_take (i := 1) (oi := { dst := some 103, op := Go.Op.move (Go.Operand.tmp 102), type := 4, pos := "law.go:35", after := #[{ on := 0, ground := Go.Ground.data }, { on := 0, ground := Go.Ground.chain }], guard := none }) (v := ?_) rfl (by kernel_rfl) (by kernel_rfl) (by kernel_rfl) (fun _ _ _ h => h) (Or.inl ⟨by rfl, ?_⟩) hH1 ?_
            rotate_left
            · (intro wz hSz; (try dsimp only at hSz); go_simp; try with_reducible rfl)
            simp only [Act.put, List.setIfInBounds_toArray, List.set_cons_zero, List.set_cons_succ]
            refine wpAnyH_take (i := 2) (oi := { dst := some 104, op := Go.Op.load 40 (Go.Operand.tmp 3), type := 40, pos := "law.go:35", after := #[{ on := 1, ground := Go.Ground.guard }], guard := some (1, true) }) (v := ?_) rfl (by kernel_rfl) (by kernel_rfl) (by kernel_rfl) (fun _ _ _ h => h) (Or.inl ⟨by rfl, ?_⟩) hH1 ?_
            rotate_left
            · (intro wz hSz; (try dsimp only at hSz); go_simp; try with_reducible rfl)
            simp only [Act.put, List.setIfInBounds_toArray, List.set_cons_zero, List.set_cons_succ]
            refine wpAnyH_ready (rs := [3]) (by kernel_rfl) (by simp) ?_
            refine AllReadyH.cons (o := { dst := some 105, op := Go.Op.call { callee := Go.Callee.value (Go.Operand.func 32), args := #[Go.Operand.tmp 104], argTypes := #[40] }, type := 4, pos := "law.go:35", after := #[{ on := 2, ground := Go.Ground.data }, { on := 1, ground := Go.Ground.chain }, { on := 1, ground := Go.Ground.guard }], guard := some (1, true) }) rfl (fun K hK => ?_) AllReadyH.nil
            go_simp
            with_reducible refine (RA.call _).mono ?_
            rintro r wq2 ⟨rfl, hbq⟩
            go_wp2_with fail
            refine hK.out _ _ (held5_below hH1 hbq) (fun hH2 => ?_)
            clear hK K hbq hH1
            refine wpAnyH_take (i := 4) (oi := { dst := some 106, op := Go.Op.unOp Go.UnOp.not 4 (Go.Operand.tmp 105), type := 4, pos := "law.go:35", after := #[{ on := 3, ground := Go.Ground.data }, { on := 1, ground := Go.Ground.guard }], guard := some (1, true) }) (v := ?_) rfl (by kernel_rfl) (by kernel_rfl) (by kernel_rfl) (fun _ _ _ h => h) (Or.inl ⟨by rfl, ?_⟩) hH2 ?_
            rotate_left
            · (intro wz hSz; (try dsimp only at hSz); go_simp; try with_reducible rfl)
            simp only [Act.put, List.setIfInBounds_toArray, List.set_cons_zero, List.set_cons_succ]
            refine wpAnyH_take (i := 5) (oi := { dst := some 107, op := Go.Op.move (Go.Operand.tmp 106), type := 4, pos := "law.go:35", after := #[{ on := 4, ground := Go.Ground.data }, { on := 3, ground := Go.Ground.chain }, { on := 1, ground := Go.Ground.guard }], guard := some (1, true) }) (v := ?_) rfl (by kernel_rfl) (by kernel_rfl) (by kernel_rfl) (fun _ _ _ h => h) (Or.inl ⟨by rfl, ?_⟩) hH2 ?_
            rotate_left
            · (intro wz hSz; (try dsimp only at hSz); go_simp; try with_reducible rfl)
            simp only [Act.put, List.setIfInBounds_toArray, List.set_cons_zero, List.set_cons_succ]
            refine wpAnyH_take (i := 6) (oi := { dst := some 108, op := Go.Op.build 40 #[], type := 40, pos := "law.go:35", after := #[{ on := 5, ground := Go.Ground.guard }], guard := some (5, false) }) (v := ?_) rfl (by kernel_rfl) (by kernel_rfl) (by kernel_rfl) (fun _ _ _ h => h) (Or.inl ⟨by rfl, ?_⟩) hH2 ?_
            rotate_left
            · (intro wz hSz; (try dsimp only at hSz); go_simp; try with_reducible rfl)
            simp only [Act.put, List.setIfInBounds_toArray, List.set_cons_zero, List.set_cons_succ]
            refine wpAnyH_take (i := 7) (oi := { dst := some 109, op := Go.Op.load 40 (Go.Operand.tmp 3), type := 40, pos := "law.go:35", after := #[{ on := 5, ground := Go.Ground.guard }], guard := some (5, false) }) (v := ?_) rfl (by kernel_rfl) (by kernel_rfl) (by kernel_rfl) (fun _ _ _ h => h) (Or.inl ⟨by rfl, ?_⟩) hH2 ?_
            rotate_left
            · (intro wz hSz; (try dsimp only at hSz); go_simp; try with_reducible rfl)
            simp only [Act.put, List.setIfInBounds_toArray, List.set_cons_zero, List.set_cons_succ]
            refine wpAnyH_ready (rs := [8]) (by kernel_rfl) (by simp) ?_
            refine AllReadyH.cons (o := { dst := some 110, op := Go.Op.call { callee := Go.Callee.value (Go.Operand.func 34), args := #[Go.Operand.tmp 108, Go.Operand.tmp 109], argTypes := #[40, 40] }, type := 4, pos := "law.go:35", after := #[{ on := 6, ground := Go.Ground.data }, { on := 7, ground := Go.Ground.data }, { on := 5, ground := Go.Ground.chain }, { on := 5, ground := Go.Ground.guard }], guard := some (5, false) }) rfl (fun K hK => ?_) AllReadyH.nil
            go_simp
            with_reducible refine (HZ.call _).mono ?_
            rintro r wq3 ⟨rfl, hbq⟩
            go_wp2_with fail
            refine hK.out _ _ (held5_below hH2 hbq) (fun hH3 => ?_)
            clear hK K hbq hH2
            refine wpAnyH_take (i := 9) (oi := { dst := some 111, op := Go.Op.move (Go.Operand.tmp 110), type := 4, pos := "law.go:35", after := #[{ on := 8, ground := Go.Ground.data }, { on := 8, ground := Go.Ground.chain }, { on := 5, ground := Go.Ground.guard }], guard := some (5, false) }) (v := ?_) rfl (by kernel_rfl) (by kernel_rfl) (by kernel_rfl) (fun _ _ _ h => h) (Or.inl ⟨by rfl, ?_⟩) hH3 ?_
            rotate_left
            · (intro wz hSz; (try dsimp only at hSz); go_simp; try with_reducible rfl)
            simp only [Act.put, List.setIfInBounds_toArray, List.set_cons_zero, List.set_cons_succ]
            refine wpAnyH_take (i := 10) (oi := { dst := some 112, op := Go.Op.load 40 (Go.Operand.tmp 3), type := 40, pos := "law.go:35", after := #[{ on := 9, ground := Go.Ground.guard }], guard := some (9, true) }) (v := ?_) rfl (by kernel_rfl) (by kernel_rfl) (by kernel_rfl) (fun _ _ _ h => h) (Or.inl ⟨by rfl, ?_⟩) hH3 ?_
            rotate_left
            · (intro wz hSz; (try dsimp only at hSz); go_simp; try with_reducible rfl)
            simp only [Act.put, List.setIfInBounds_toArray, List.set_cons_zero, List.set_cons_succ]
            refine wpAnyH_ready (rs := [11]) (by kernel_rfl) (by simp) ?_
            refine AllReadyH.cons (o := { dst := some 113, op := Go.Op.call { callee := Go.Callee.value (Go.Operand.func 40), args := #[], argTypes := #[] }, type := 40, pos := "law.go:35", after := #[{ on := 9, ground := Go.Ground.chain }, { on := 9, ground := Go.Ground.guard }], guard := some (9, true) }) rfl (fun K hK => ?_) AllReadyH.nil
            go_simp
            with_reducible refine (top_live_call _).mono ?_
            rintro r wq4 ⟨rfl, hbq⟩
            go_wp2_with fail
            refine hK.out _ _ (held5_below hH3 hbq) (fun hH4 => ?_)
            clear hK K hbq hH3
            refine wpAnyH_ready (rs := [12]) (by kernel_rfl) (by simp) ?_
            refine AllReadyH.cons (o := { dst := some 114, op := Go.Op.call { callee := Go.Callee.value (Go.Operand.func 34), args := #[Go.Operand.tmp 112, Go.Operand.tmp 113], argTypes := #[40, 40] }, type := 4, pos := "law.go:35", after := #[{ on := 10, ground := Go.Ground.data }, { on := 11, ground := Go.Ground.data }, { on := 11, ground := Go.Ground.chain }, { on := 9, ground := Go.Ground.guard }], guard := some (9, true) }) rfl (fun K hK => ?_) AllReadyH.nil
            go_simp
            with_reducible refine (HU.call _).mono ?_
            rintro r wq5 ⟨rfl, hbq⟩
            go_wp2_with fail
            refine hK.out _ _ (held5_below hH4 hbq) (fun hH5 => ?_)
            clear hK K hbq hH4
            refine wpAnyH_take (i := 13) (oi := { dst := some 115, op := Go.Op.pick (Go.Operand.tmp 111) (Go.Operand.tmp 114) (Go.Operand.const (Go.Value.bool false)), type := 4, pos := "law.go:35", after := #[{ on := 9, ground := Go.Ground.data }, { on := 12, ground := Go.Ground.data }, { on := 5, ground := Go.Ground.guard }], guard := some (5, false) }) (v := ?_) rfl (by kernel_rfl) (by kernel_rfl) (by kernel_rfl) (fun _ _ _ h => h) (Or.inl ⟨by rfl, ?_⟩) hH5 ?_
            rotate_left
            · (intro wz hSz; (try dsimp only at hSz); go_simp; try with_reducible rfl)
            simp only [Act.put, List.setIfInBounds_toArray, List.set_cons_zero, List.set_cons_succ]
            refine wpAnyH_take (i := 14) (oi := { dst := some 116, op := Go.Op.pick (Go.Operand.tmp 107) (Go.Operand.const (Go.Value.bool true)) (Go.Operand.tmp 115), type := 4, pos := "law.go:35", after := #[{ on := 5, ground := Go.Ground.data }, { on := 13, ground := Go.Ground.data }, { on := 1, ground := Go.Ground.guard }], guard := some (1, true) }) (v := ?_) rfl (by kernel_rfl) (by kernel_rfl) (by kernel_rfl) (fun _ _ _ h => h) (Or.inl ⟨by rfl, ?_⟩) hH5 ?_
            rotate_left
            · (intro wz hSz; (try dsimp only at hSz); go_simp; try with_reducible rfl)
            simp only [Act.put, List.setIfInBounds_toArray, List.set_cons_zero, List.set_cons_succ]
            refine wpAnyH_take (i := 15) (oi := { dst := some 117, op := Go.Op.pick (Go.Operand.tmp 103) (Go.Operand.tmp 116) (Go.Operand.const (Go.Value.bool false)), type := 4, pos := "law.go:35", after := #[{ on := 1, ground := Go.Ground.data }, { on := 14, ground := Go.Ground.data }], guard := none }) (v := ?_) rfl (by kernel_rfl) (by kernel_rfl) (by kernel_rfl) (fun _ _ _ h => h) (Or.inl ⟨by rfl, ?_⟩) hH5 ?_
            rotate_left
            · (intro wz hSz; (try dsimp only at hSz); go_simp; try with_reducible rfl)
            simp only [Act.put, List.setIfInBounds_toArray, List.set_cons_zero, List.set_cons_succ]
            refine wpAnyH_take (i := 16) (oi := { dst := some 6, op := Go.Op.assign (Go.Operand.tmp 117), type := 4, pos := "law.go:35", after := #[{ on := 15, ground := Go.Ground.data }, { on := 12, ground := Go.Ground.chain }, { on := 0, ground := Go.Ground.phase }, { on := 1, ground := Go.Ground.phase }, { on := 2, ground := Go.Ground.phase }, { on := 3, ground := Go.Ground.phase }, { on := 4, ground := Go.Ground.phase }, { on := 5, ground := Go.Ground.phase }, { on := 6, ground := Go.Ground.phase }, { on := 7, ground := Go.Ground.phase }, { on := 8, ground := Go.Ground.phase }, { on := 9, ground := Go.Ground.phase }, { on := 10, ground := Go.Ground.phase }, { on := 11, ground := Go.Ground.phase }, { on := 12, ground := Go.Ground.phase }, { on := 13, ground := Go.Ground.phase }, { on := 14, ground := Go.Ground.phase }, { on := 15, ground := Go.Ground.phase }], guard := none }) (v := ?_) rfl (by kernel_rfl) (by kernel_rfl) (by kernel_rfl) (fun _ _ _ h => h) (Or.inl ⟨by rfl, ?_⟩) hH5 ?_
            rotate_left
            · (intro wz hSz; (try dsimp only at hSz); go_simp; try with_reducible rfl)
            simp only [Act.put, List.setIfInBounds_toArray, List.set_cons_zero, List.set_cons_succ]
            refine wpAnyH_done (by kernel_rfl) ?_ _
            go_wp2_with fail
            go_ret
            exact ⟨rfl, h5_end hH5⟩

theorem lat_walk (l m n : Int) (c d e : Nat) (w : World) (hc : c < 18446744073709551616) (hd : d < 18446744073709551616) (he : e < 18446744073709551616) (ht : Tab w) :
    Calls Tryd.prog 10 #[lab l c, lab m d, lab n e] w fun e w' => e = .returned (.bool true) ∧ Below w.heap.size w w' := by
  have hx := or_small hc hd
  have hy : c &&& d < 18446744073709551616 := Nat.lt_of_le_of_lt Nat.and_le_left hc
  have bw := fun {l m : Int} {c d : Nat} (hc : c < 18446744073709551616) (hd : d < 18446744073709551616) {b : Bool} (hb : belowB l c m d = b) => show Bw l m c d b from hb ▸ bw_is l m c d hc hd
  have hr : rightB l = true → 0 ≤ l ∧ l ≤ 15 := fun h => by
    unfold rightB at h
    rw [Bool.and_eq_true, decide_eq_true_iff, decide_eq_true_iff] at h
    exact h
  refine lat_law l m n (max l m) (min l m) c d e (c ||| d) (c &&& d) _ _ _ _ _ _ _ w (Lib.hid ht) (fun w => join_any l m c d w hc hd) (fun w => meet_any l m c d w hc hd)
    (bw hc hc (below_refl l c)) (bw hc hd rfl) (bw hd hc rfl) (bw hd he rfl) (bw hc he rfl) (bw hc hx (below_j1 l m c d)) (bw hd hx (below_j2 l m c d)) (fun h1 h2 => bw hx he ?_)
    (bw hy hc (below_m1 l m c d)) (bw hy hd (below_m2 l m c d)) (bw he hc rfl) (bw he hd rfl) (fun h1 h2 => bw he hy ?_) (fun w => right_any l c w) (fun h w => ?_) (fun h w => ?_) below_anti below_trans
  · rw [below_join, h1, h2]; rfl
  · rw [← below_meet n l m e c d h1]; exact h2
  · have := below_any 0 l 0 c w (by omega) hc
    rw [below_bot c (hr h).1] at this
    exact this
  · have := below_any l 15 c 18446744073709551615 w hc (by omega)
    rw [below_top (hr h).2 hc] at this
    exact this
end Go.Proofs.YtbilhdfoajahkaaDoor.L
