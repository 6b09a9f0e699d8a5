/-
  The card of PolicyFloors, proved: for every policy, two names and two labels the law returns true and its arguments read as they did; the listed tables of the library hold what the program's text lays.
-/
import Derived.Test.YtadhhamfikpimaaDoorGRowKit
import Derived.Test.YtadhhamfikpimaaDoorGLawFloors
import Derived.Test.YtadhhamfikpimaaDoorCards
import Derived.Test.YtadhhamfikpimaaDoorTie
import Derived.Lib.SmallJoins
import Derived.Test.YtadhhamfikpimaaDoorGArgPol
import Derived.SizedLaws
namespace Go.Proofs.YtadhhamfikpimaaDoor.rFloors
open Go.ChangeShapes Go.WideShapes Go.ChangeAt Go.RowKit Go.Joins
open Go.ChangeMaps (open_string)

theorem readable : ∀ t ∈ Tryd.f6.params.toList, Tryd.prog.readableRec t = true ∧ t < Tryd.prog.types.size := by
  rw [Tryd.params6]
  intro t ht
  simp only [List.mem_cons, List.not_mem_nil, or_false] at ht
  rcases ht with rfl | rfl | rfl | rfl | rfl <;> exact ⟨by kernel_rfl, of_decide_eq_true (by kernel_rfl)⟩

set_option maxRecDepth 100000 in
theorem contract (H : Type) (enc : TypeId × Value → H) (W : World) (base : Nat) (args : Array Value) (ds gs : List (DataW H)) (before : List MemPlace)
    (hval : ∀ (j : Nat) t v, Tryd.f6.params[j]? = some t → args[j]? = some v → Value.okWide Tryd.prog W .any base t v)
    (hW : DataW.Whole enc Tryd.prog Tryd.f6.params.toList Rows.policyFloorsSpec.vars false W args.toList ds gs before) (hL : laidMetH Tryd.prog R.listed W) (hsz0 : (DataW.weightsEach Tryd.prog (Tryd.f6.params.toList ++ (OpenSpec.ofChange Rows.policyFloorsSpec).bare.plain.varTypes Tryd.prog) (ds ++ gs)).all (· ≤ reachBytes) = true) :
    Calls Tryd.prog 6 args W fun e W' => ∃ v, e = .returned v ∧ Rows.policyFloorsSpec.post enc Tryd.prog Tryd.f6 false true false false W args v W' := by
  have hW' := hW
  have hlt := hW.lt
  obtain ⟨p, q, hA0, hV, rfl, hfz, hnd⟩ := hW
  have hA : DataW.TrodAll enc Tryd.prog W 0 (fun _ => true) true Tryd.f6.params.toList args.toList ds p := hA0
  have hA1 := hA
  rw [Tryd.params6] at hA hval hsz0
  obtain ⟨v0, vs0, d0, ds0, p0, q0, hargs, rfl, rfl, h0, r0⟩ := trodAll_cons hA
  obtain ⟨v1, vs1, d1, ds1, p1, q1, rfl, rfl, rfl, h1, r1⟩ := trodAll_cons r0
  obtain ⟨v2, vs2, d2, ds2, p2, q2, rfl, rfl, rfl, h2, r2⟩ := trodAll_cons r1
  obtain ⟨v3, vs3, d3, ds3, p3, q3, rfl, rfl, rfl, h3, r3⟩ := trodAll_cons r2
  obtain ⟨v4, vs4, d4, ds4, p4, q4, rfl, rfl, rfl, h4, r4⟩ := trodAll_cons r3
  obtain ⟨rfl, rfl, rfl⟩ := trodAll_nil r4
  obtain rfl : args = #[v0, v1, v2, v3, v4] := by cases args; simp_all
  obtain ⟨rfl, rfl⟩ := trodVars_none hV
  obtain ⟨x0n0, x0n1, x0n2, x0n3, x0n4, x0n5, x0hid, x0uA, x0fA, x0uc, x0fc, x0us, x0fs, rfl, b0⟩ := RP.pol_arg (hval 0 26 v0 rfl rfl) h0
  obtain ⟨x1, rfl, rfl, -, b1⟩ := open_string Tryd.underlying9 (hval 1 9 v1 rfl rfl) h1
  obtain ⟨x2, rfl, rfl, -, b2⟩ := open_string Tryd.underlying9 (hval 2 9 v2 rfl rfl) h2
  have hxy : x1.size + x2.size ≤ 9223372036854775807 := by
    have z1 := sized_string hsz0 (j := 1) (t := 9) rfl rfl
    have z2 := sized_string hsz0 (j := 2) (t := 9) rfl rfl
    simp only [reachBytes] at z1 z2
    rw [Lib.size_eq, Lib.size_eq]
    omega
  obtain ⟨x3c0, x3c1, x3y0, x3y1, x3m, rfl, -, -, x3g0, x3g1⟩ := Joins.open_agg2 Tryd.underlying40 (by kernel_rfl) (by kernel_rfl) (hval 3 40 v3 rfl rfl) h3
  obtain ⟨x3l, x3e0, -, x3w0⟩ := DataW.trod_int Tryd.underlying3 x3g0
  obtain ⟨x3n, x3e1, -, x3w1⟩ := DataW.trod_int Tryd.underlying38 x3g1
  simp only [List.cons.injEq, and_true] at x3e0 x3e1
  subst x3e0 x3e1
  obtain ⟨x3k, rfl⟩ := Int.eq_ofNat_of_zero_le (bounds_u64 x3w1).1
  have b3 : x3k < 18446744073709551616 := by have := (bounds_u64 x3w1).2; omega
  obtain ⟨x4c0, x4c1, x4y0, x4y1, x4m, rfl, -, -, x4g0, x4g1⟩ := Joins.open_agg2 Tryd.underlying40 (by kernel_rfl) (by kernel_rfl) (hval 4 40 v4 rfl rfl) h4
  obtain ⟨x4l, x4e0, -, x4w0⟩ := DataW.trod_int Tryd.underlying3 x4g0
  obtain ⟨x4n, x4e1, -, x4w1⟩ := DataW.trod_int Tryd.underlying38 x4g1
  simp only [List.cons.injEq, and_true] at x4e0 x4e1
  subst x4e0 x4e1
  obtain ⟨x4k, rfl⟩ := Int.eq_ofNat_of_zero_le (bounds_u64 x4w1).1
  have b4 : x4k < 18446744073709551616 := by have := (bounds_u64 x4w1).2; omega
  have walk : Calls Tryd.prog 6 #[O.polA x0n0 x0n1 x0n2 x0n3 x0n4 x0n5 x0hid (.slice x0uA x0us.length x0uc) (.slice x0fA x0fs.length x0fc), .string x1, .string x2, .agg #[.int .i64 x3l, .int .u64 (x3k : Int)], .agg #[.int .i64 x4l, .int .u64 (x4k : Int)]] W fun e W' => e = .returned (.bool true) ∧ Below W.heap.size W W' := O.floors_walk x0n0 x0n1 x0n2 x0n3 x0n4 x0n5 x0hid x0uA x0fA x0uc x0fc x0us x0fs x1 x2 x3l x4l x3k x4k W b0.hid b0.usIn (Nat.le_trans b0.ul b0.uc) (fun u h => ⟨(b0.uok u h).1, (b0.uok u h).2.1⟩) b0.fsIn (Nat.le_trans b0.fl b0.fc) (fun u h => ⟨(b0.fok u h).1, (b0.fok u h).2.1⟩) hxy b3 b4 (R.tab_of hL)
  refine walk.mono fun e W' ⟨he, hb⟩ => ?_
  subst he
  refine ⟨_, rfl, _, _, _, [], p0 ++ (p1 ++ (p2 ++ (p3 ++ (p4 ++ [])))), [], hW', ?_, ?_, ?_, hb.frame _, fun h => by cases h⟩
  · exact trodAll_cons_mk (shut_bool Tryd.underlying4 _) trodAll_mk0
  · exact R.again hb readable hA1 (fun x hx => hlt x (by simpa using hx))
  · rfl

theorem laid_met (os : Os) : laidMet Tryd.prog R.listed ((R.laidWorld os).forCall (fun _ _ => 0) ⟨#[], #[.agg #[.int .i64 0, .int .i64 0, .int .i64 0, .int .i64 0, .int .i64 0, .int .i64 0, .string ⟨#[]⟩, .slice none 0 0, .slice none 0 0], .string ⟨#[]⟩, .string ⟨#[]⟩, .agg #[.int .i64 0, .int .u64 0], .agg #[.int .i64 0, .int .u64 0]], []⟩).memory :=
  laidMet_of_run' 8 (by kernel_rfl) (by kernel_rfl)
theorem reads (os : Os) {H : Type} (enc : TypeId × Value → H) : ∃ places, DataW.whole enc Tryd.prog ((R.laidWorld os).forCall (fun _ _ => 0) ⟨#[], #[.agg #[.int .i64 0, .int .i64 0, .int .i64 0, .int .i64 0, .int .i64 0, .int .i64 0, .string ⟨#[]⟩, .slice none 0 0, .slice none 0 0], .string ⟨#[]⟩, .string ⟨#[]⟩, .agg #[.int .i64 0, .int .u64 0], .agg #[.int .i64 0, .int .u64 0]], []⟩).memory Tryd.f6.params.toList Rows.policyFloorsSpec.vars false #[Value.agg #[.int .i64 0, .int .i64 0, .int .i64 0, .int .i64 0, .int .i64 0, .int .i64 0, .string ⟨#[]⟩, .slice none 0 0, .slice none 0 0], Value.string ⟨#[]⟩, Value.string ⟨#[]⟩, Value.agg #[.int .i64 0, .int .u64 0], Value.agg #[.int .i64 0, .int .u64 0]].toList 8 = some ([.agg [.lit (.int .i64 0), .lit (.int .i64 0), .lit (.int .i64 0), .lit (.int .i64 0), .lit (.int .i64 0), .lit (.int .i64 0), .lit (.string []), .nil, .nil], .lit (.string []), .lit (.string []), .agg [.lit (.int .i64 0), .lit (.int .u64 0)], .agg [.lit (.int .i64 0), .lit (.int .u64 0)]], [], places) :=
  ⟨[], by kernel_rfl⟩

set_option maxRecDepth 100000 in
theorem lifted (os : Os) (started : os.Started) (H : Type) (enc : TypeId × Value → H) (F : Stop.Interp) :
    ReturnsInHanded {} Tryd.checked os 6 .any ((OpenSpec.ofChange Rows.policyFloorsSpec).preRow enc Tryd.prog Tryd.f6 Rows.policyFloorsRow.domain false Rows.policyFloorsRow.laid) (((OpenSpec.ofChange Rows.policyFloorsSpec).at F).post enc Tryd.prog Tryd.f6 false true false false) := by
  obtain ⟨places, hx⟩ := reads os enc
  refine returnsInHanded_of_row (C := Tryd.checked) (s := OpenSpec.ofChange Rows.policyFloorsSpec) R.own started (by kernel_rfl) Tryd.func6
    (witness_row_at (enc := enc) (C := Tryd.checked) false (R.laidWorld os) #[.agg #[.int .i64 0, .int .i64 0, .int .i64 0, .int .i64 0, .int .i64 0, .int .i64 0, .string ⟨#[]⟩, .slice none 0 0, .slice none 0 0], .string ⟨#[]⟩, .string ⟨#[]⟩, .agg #[.int .i64 0, .int .u64 0], .agg #[.int .i64 0, .int .u64 0]] rfl (by kernel_rfl) (by kernel_rfl) (by kernel_rfl)
      (OpenSpec.preRow_of_cond 8 hx (by kernel_rfl) (fun k hk => by cases hk) (by kernel_rfl) (laid_met os))) ?_
  intro W base args ds gs before hval hW _ _ hsz hL _ _
  exact contract H enc W base args ds gs before hval hW hL hsz

theorem said : Rows.PolicyFloorsSaid :=
  OpenClaim.holds_of_cond 6 Tryd.f6 rfl rfl rfl rfl rfl rfl rfl ⟨rfl, rfl, rfl, rfl, rfl⟩ rfl rfl rfl rfl rfl (by kernel_rfl) Tryd.func6 (by kernel_rfl)
    (of_decide_eq_true (by kernel_rfl)) (by unfold Func.isWrapper; first | (rw [if_pos (by decide +kernel)]; kernel_rfl) | (rw [if_neg (by decide +kernel)]; exact ⟨rfl, rfl⟩))
    (fun os started H enc _ F => by rw [OpenClaim.pre_eq_preRow]; exact lifted os started H enc F)

/-- No parameter wants a stand-in; the program's own looks are off. -/
theorem plain (f : FuncId) (fn : Func) (hf : Tryd.pinned.checked.prog.funcNamed Rows.policyFloorsRow.func = some f) (hfn : Tryd.pinned.checked.prog.funcs[f]? = some fn) :
    true = Tryd.pinned.checked.prog.looks [] ∧ ∀ (j : Nat) t, fn.params[j]? = some t → Tryd.pinned.checked.prog.wantsStandIn t = false := by
  obtain rfl : f = 6 := Option.some.inj ((show Tryd.prog.funcNamed Rows.policyFloorsRow.func = some 6 by kernel_rfl).symm.trans hf) |>.symm
  obtain rfl : fn = Tryd.f6 := (Option.some.inj (Tryd.func6.symm.trans hfn)).symm
  refine ⟨by kernel_rfl, fun j t ht => ?_⟩
  rw [Tryd.params6] at ht
  have hm := Array.mem_of_getElem? ht
  simp only [List.mem_toArray, List.mem_cons, List.not_mem_nil, or_false] at hm
  rcases hm with rfl | rfl | rfl | rfl | rfl
  · exact (show Tryd.prog.wantsStandIn 26 = false by kernel_rfl)
  · exact (show Tryd.prog.wantsStandIn 9 = false by kernel_rfl)
  · exact (show Tryd.prog.wantsStandIn 9 = false by kernel_rfl)
  · exact (show Tryd.prog.wantsStandIn 40 = false by kernel_rfl)
  · exact (show Tryd.prog.wantsStandIn 40 = false by kernel_rfl)

/-- The card. -/
theorem card : Rows.PolicyFloorsCardSaid :=
  Claim7.holds_tied_plain_at .later [] _ _ _ _ said (fun _ h => by cases h) (by kernel_rfl) (fun _ h => by cases h) policyFloors_row_tie rfl ⟨rfl, rfl⟩ (by kernel_rfl) rfl plain (by kernel_rfl)
end Go.Proofs.YtadhhamfikpimaaDoor.rFloors
