/-
  TallyFits, proved: for every two items, quota and label the law returns true and its arguments read as they did.
-/
import Derived.Test.YtmddikabilnokaaGya
import Derived.Test.YtmddikabilnokaaGLawTaFits
import Derived.Lib.SmallJoins
import Derived.Test.YtmddikabilnokaaGyh
namespace Go.Proofs.Ytmddikabilnokaa.rTaFits
set_option linter.unusedVariables false
set_option linter.unusedSimpArgs false
open Go.ChangeShapes Go.WideShapes Go.ChangeAt Go.RowKit Go.Joins
open Go.ChangeMaps (open_string)

theorem readable : ∀ t ∈ Try.f4.params.toList, Try.prog.readableRec t = true ∧ t < Try.prog.types.size := by
  rw [Try.params4]
  intro t ht
  simp only [List.mem_cons, List.not_mem_nil, or_false] at ht
  rcases ht with rfl | rfl | rfl | rfl <;> exact ⟨by kernel_rfl, of_decide_eq_true (by kernel_rfl)⟩

set_option maxRecDepth 100000 in
theorem contract (H : Type) (enc : TypeId × Value → H) (W : World) (base : Nat) (args : Array Value) (ds gs : List (DataW H)) (before : List MemPlace)
    (hval : ∀ (j : Nat) t v, Try.f4.params[j]? = some t → args[j]? = some v → Value.okWide Try.prog W .any base t v)
    (hW : DataW.Whole enc Try.prog Try.f4.params.toList Rows.tallyFitsSpec.vars false W args.toList ds gs before) (hL : laidMetH Try.prog R.listed W) :
    Calls Try.prog 4 args W fun e W' => ∃ v, e = .returned v ∧ Rows.tallyFitsSpec.post enc Try.prog Try.f4 false true false false W args v W' := by
  have hW' := hW
  have hlt := hW.lt
  obtain ⟨p, q, hA0, hV, rfl, hfz, hnd⟩ := hW
  have hA : DataW.TrodAll enc Try.prog W 0 (fun _ => true) true Try.f4.params.toList args.toList ds p := hA0
  have hA1 := hA
  rw [Try.params4] at hA hval
  obtain ⟨v0, vs0, d0, ds0, p0, q0, hargs, rfl, rfl, h0, r0⟩ := trodAll_cons hA
  obtain ⟨v1, vs1, d1, ds1, p1, q1, rfl, rfl, rfl, h1, r1⟩ := trodAll_cons r0
  obtain ⟨v2, vs2, d2, ds2, p2, q2, rfl, rfl, rfl, h2, r2⟩ := trodAll_cons r1
  obtain ⟨v3, vs3, d3, ds3, p3, q3, rfl, rfl, rfl, h3, r3⟩ := trodAll_cons r2
  obtain ⟨rfl, rfl, rfl⟩ := trodAll_nil r3
  obtain rfl : args = #[v0, v1, v2, v3] := by cases args; simp_all
  obtain ⟨rfl, rfl⟩ := trodVars_none hV
  obtain ⟨x0A, x0cap, x0, rfl, x0i, x0o, x0w⟩ := RI.items_argW (hval 0 22 v0 rfl rfl) h0
  have x0z := RI.items_capW h0
  obtain ⟨x1A, x1cap, x1, rfl, x1i, x1o, x1w⟩ := RI.items_argW (hval 1 22 v1 rfl rfl) h1
  have x1z := RI.items_capW h1
  obtain ⟨x2, rfl, -, -, wx2⟩ := open_int Try.underlying3 (hval 2 3 v2 rfl rfl) h2
  have b2 := bounds_i64 wx2
  obtain ⟨x3c0, x3c1, x3y0, x3y1, x3m, rfl, -, -, x3g0, x3g1⟩ := Joins.open_agg2 Try.underlying25 (by kernel_rfl) (by kernel_rfl) (hval 3 25 v3 rfl rfl) h3
  obtain ⟨x3l, x3e0, -, x3w0⟩ := DataW.trod_int Try.underlying3 x3g0
  obtain ⟨x3n, x3e1, -, x3w1⟩ := DataW.trod_int Try.underlying23 x3g1
  simp only [List.cons.injEq, and_true] at x3e0 x3e1
  subst x3e0 x3e1
  obtain ⟨x3k, rfl⟩ := Int.eq_ofNat_of_zero_le (bounds_u64 x3w1).1
  have b3 : x3k < 18446744073709551616 := by have := (bounds_u64 x3w1).2; omega
  have walk : Calls Try.prog 4 #[.slice x0A x0.length x0cap, .slice x1A x1.length x1cap, .int .i64 x2, .agg #[.int .i64 x3l, .int .u64 (x3k : Int)]] W fun e W' => e = .returned (.bool true) ∧ Below W.heap.size W W' := Ta.tfits_law (a := (x3l, x3k)) _ x0i (fun x hx => ⟨(x0w x hx).lv, (x0w x hx).ct⟩) x0o.len x0z.1 x1i x1o.len x1z.1
  refine walk.mono fun e W' ⟨he, hb⟩ => ?_
  subst he
  refine ⟨_, rfl, _, _, _, [], p0 ++ (p1 ++ (p2 ++ (p3 ++ []))), [], hW', ?_, ?_, ?_, hb.frame _, fun h => by cases h⟩
  · exact trodAll_cons_mk (shut_bool Try.underlying4 _) trodAll_mk0
  · exact R.again hb readable hA1 (fun x hx => hlt x (by simpa using hx))
  · rfl

theorem laid_met (os : Os) : laidMet Try.prog R.listed ((R.laidWorld os).forCall (fun _ _ => 0) ⟨#[], #[.slice none 0 0, .slice none 0 0, .int .i64 0, .agg #[.int .i64 0, .int .u64 0]], []⟩).memory :=
  laidMet_of_run' 8 (by kernel_rfl) (by kernel_rfl)
theorem reads (os : Os) {H : Type} (enc : TypeId × Value → H) : ∃ places, DataW.whole enc Try.prog ((R.laidWorld os).forCall (fun _ _ => 0) ⟨#[], #[.slice none 0 0, .slice none 0 0, .int .i64 0, .agg #[.int .i64 0, .int .u64 0]], []⟩).memory Try.f4.params.toList Rows.tallyFitsSpec.vars false #[Value.slice none 0 0, Value.slice none 0 0, Value.int .i64 0, Value.agg #[.int .i64 0, .int .u64 0]].toList 8 = some ([.nil, .nil, .lit (.int .i64 0), .agg [.lit (.int .i64 0), .lit (.int .u64 0)]], [], places) :=
  ⟨[], by kernel_rfl⟩

set_option maxRecDepth 100000 in
theorem lifted (os : Os) (started : os.Started) (H : Type) (enc : TypeId × Value → H) (F : Stop.Interp) :
    ReturnsInHanded {} Try.checked os 4 .any ((OpenSpec.ofChange Rows.tallyFitsSpec).preRow enc Try.prog Try.f4 Rows.tallyFitsRow.domain false Rows.tallyFitsRow.laid) (((OpenSpec.ofChange Rows.tallyFitsSpec).at F).post enc Try.prog Try.f4 false true false false) := by
  obtain ⟨places, hx⟩ := reads os enc
  refine returnsInHanded_of_row (C := Try.checked) (s := OpenSpec.ofChange Rows.tallyFitsSpec) R.own started (by kernel_rfl) Try.func4
    (witness_row_at (enc := enc) (C := Try.checked) false (R.laidWorld os) #[.slice none 0 0, .slice none 0 0, .int .i64 0, .agg #[.int .i64 0, .int .u64 0]] rfl (by kernel_rfl) (by kernel_rfl) (by kernel_rfl)
      (OpenSpec.preRow_of_cond 8 hx (by kernel_rfl) (fun k hk => by cases hk) (by kernel_rfl) (laid_met os))) ?_
  intro W base args ds gs before hval hW _ _ _ hL _ _
  exact contract H enc W base args ds gs before hval hW hL

theorem said : Rows.TallyFitsSaid :=
  OpenClaim.holds_of_cond 4 Try.f4 rfl rfl rfl rfl rfl rfl rfl ⟨rfl, rfl, rfl, rfl, rfl⟩ rfl rfl rfl rfl rfl (by kernel_rfl) Try.func4 (by kernel_rfl)
    (of_decide_eq_true (by kernel_rfl)) (by unfold Func.isWrapper; first | (rw [if_pos (by decide +kernel)]; kernel_rfl) | (rw [if_neg (by decide +kernel)]; exact ⟨rfl, rfl⟩))
    (fun os started H enc _ F => by rw [OpenClaim.pre_eq_preRow]; exact lifted os started H enc F)

end Go.Proofs.Ytmddikabilnokaa.rTaFits
