/-
  Rows of bytes in memory, and the contract of text.cut.
-/
import Derived.Test.YtbilhdfoajahkaaDoorTextB
import Derived.Laws.BytesArg
namespace Go.Proofs.YtbilhdfoajahkaaDoor.T
open Go.RowKit

/-- A row of bytes in memory: the cells from an address on hold the bytes of a list. -/
def BytesAt (w : World) (bk off : Nat) (l : List UInt8) : Prop := ∀ j (h : j < l.length), w.cell? ⟨bk, off + j, none⟩ = some (.int .u8 (l[j].toNat : Int))
theorem BytesAt.below {w w' : World} {bk off B : Nat} {l : List UInt8} (h : BytesAt w bk off l) (hb : Below B w w') (hB : bk < B) : BytesAt w' bk off l :=
  fun j hj => (hb.cell (p := ⟨bk, off + j, none⟩) hB).trans (h j hj)
theorem BytesAt.sub {w : World} {bk off i n : Nat} {l : List UInt8} (h : BytesAt w bk off l) : BytesAt w bk (off + i) ((l.drop i).take n) := by
  intro j hj
  have hj' : j < n ∧ j < l.length - i := by simp at hj; omega
  have := h (i + j) (by omega)
  rw [Nat.add_assoc]
  simpa using this

theorem strOfNums_bytes (m : List UInt8) : strOfNums (m.map fun c => (c.toNat : Int)) = ⟨m.toArray⟩ := by
  unfold strOfNums
  congr 1
  congr 1
  rw [List.map_map]
  conv => rhs; rw [← List.map_id m]
  exact List.map_congr_left fun c _ => by simp
theorem conv_bytes (w : World) (bk off len cap : Nat) (m : List UInt8) (hlen : m.length = len) (h : BytesAt w bk off m) :
    (convert 22 9 (.slice (some ⟨bk, off, none⟩) len cap)).run Tryd.prog w = .ok (.string ⟨m.toArray⟩) w := by
  have hc := run_convert_bytes_arg (P := Tryd.prog) w 22 5 Tryd.underlying22 Tryd.underlying5 bk off len cap (m.map fun c => (c.toNat : Int)) (by simpa using hlen)
    (fun i hi => by
      have hi' : i < m.length := by omega
      rw [h i hi']
      simp [List.getElem?_eq_getElem hi']) 9 Tryd.underlying9
  rw [hc, strOfNums_bytes]

set_option maxRecDepth 100000 in
theorem cut_any (bk off cap i j : Nat) (l : List UInt8) (w : World) (h : BytesAt w bk off l) (hij : i ≤ j) (hj : j ≤ l.length) (hn : l.length ≤ cap) :
    Calls Tryd.prog 49 #[.slice (some ⟨bk, off, none⟩) l.length cap, .int .i64 i, .int .i64 j] w fun e w' => e = .returned (.string ⟨((l.drop i).take (j - i)).toArray⟩) ∧ w = w' := by
  obtain ⟨n, hnl⟩ : ∃ n, n = l.length := ⟨_, rfl⟩
  rw [← hnl] at hj hn ⊢
  by_cases e : j = i
  · subst e
    have hcv := conv_bytes w bk off 0 0 [] rfl (fun j hj => absurd hj (by simp))
    have He := Lib.hid (show (l.drop j).take (j - j) = [] by simp)
    clear hnl h hij
    go_enter Tryd.func49, Tryd.ntmps49
    go_wp2
    go_ret
    exact ⟨ret_of (by rw [He.out]; rfl), rfl⟩
  · have hcv := conv_bytes w bk (off + i) (j - i) (j - i) ((l.drop i).take (j - i)) (by simp; omega) h.sub
    generalize (l.drop i).take (j - i) = m at hcv ⊢
    clear hnl h
    go_enter Tryd.func49, Tryd.ntmps49
    go_wp2
    go_ret
    exact ⟨rfl, rfl⟩
end Go.Proofs.YtbilhdfoajahkaaDoor.T
