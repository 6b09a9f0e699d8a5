/-
  The law TallySums, for any items.
-/
import Derived.Test.YtpmpjimlcnpopaaGLawTaSums
namespace Go.Proofs.Ytpmpjimlcnpopaa.Ta
set_option linter.unusedVariables false
set_option linter.unusedSimpArgs false
open Go.RowKit
open T
open I (It Lb ItemsIn)

theorem tsums_law {A : Option Addr} {cap : Nat} {l : List It} {a b c : Lb} (w : World) (hA : ItemsIn w A l) (hw : ∀ x ∈ l, Wl x.lb) (hm : l.length ≤ maxLen) (hc : l.length ≤ cap) :
    Calls Try.prog 5 #[.slice A l.length cap, .agg #[.int .i64 a.1, .int .u64 (a.2 : Int)], .agg #[.int .i64 b.1, .int .u64 (b.2 : Int)], .agg #[.int .i64 c.1, .int .u64 (c.2 : Int)]] w fun e w' => e = .returned (.bool true) ∧ Below w.heap.size w w' := by
  obtain ⟨a0, a1⟩ := a
  obtain ⟨b0, b1⟩ := b
  obtain ⟨c0, c1⟩ := c
  have hn : min l.length 60 = (l.take 60).length := by rw [List.length_take]; omega
  refine tsums_walk (l := l.take 60) (k := (l.take 60).length) (it_take hA 60) (fun x hx => hw x (List.mem_of_mem_take hx)) rfl (List.length_take_le _ _) (Lib.hid fun w => ?_) (Lib.hid live19)
  have := few_any A l.length cap w hm hc
  rw [hn] at this
  exact this
end Go.Proofs.Ytpmpjimlcnpopaa.Ta
