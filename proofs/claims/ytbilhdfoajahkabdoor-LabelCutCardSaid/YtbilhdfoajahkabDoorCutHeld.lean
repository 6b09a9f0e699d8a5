/-
  Three boxes kept over a draw.
-/
import Derived.Test.YtbilhdfoajahkabDoorHeld
import Derived.Deep.DeepCutAuto
namespace Go.Proofs.YtbilhdfoajahkabDoor.L
open Go.RowKit
open T

theorem held3_again {w W : World} {l m n : Int} {c d e : Nat} (h : Held3 w l c m d n e W) : Held3 w l c m d n e W.drew := ⟨h.1, h.2.1, h.2.2.1, h.2.2.2.1, h.2.2.2.2.1, h.2.2.2.2.2.1, h.2.2.2.2.2.2.1, h.2.2.2.2.2.2.2.drew⟩

end Go.Proofs.YtbilhdfoajahkabDoor.L
