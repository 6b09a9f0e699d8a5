/-
  What the second form's bound on the bulk of the arguments gives: bounds on lengths.
-/
import Derived.Test.YtadhhamfikpimaaDoorRows
import Derived.Lib.Strings
namespace Go.Proofs.YtadhhamfikpimaaDoor.Bulk

theorem bound {H : Type} {l : List (DataW H)} (hk : Rows.uptoSmall H l = true) : Rows.uptoBulkAll l ≤ 1048576 := of_decide_eq_true hk
theorem string_bulk {H : Type} (b : List UInt8) : Rows.uptoBulk (DataW.lit (H := H) (.string b)) = b.length + 1 := by simp [Rows.uptoBulk]
/-- One text: so many bytes at the most. -/
theorem string_size {H : Type} {s : ByteArray} {r : List (DataW H)} (hk : Rows.uptoSmall H ([.lit (.string s.data.toList)] ++ r) = true) : s.size ≤ 1048576 := by
  have h := bound hk
  simp only [List.cons_append, List.nil_append, Rows.uptoBulkAll, string_bulk] at h
  have := Lib.size_eq s
  omega
/-- A text behind one or two other arguments. -/
theorem string_size2 {H : Type} {a : DataW H} {s : ByteArray} {r : List (DataW H)} (hk : Rows.uptoSmall H ([a, .lit (.string s.data.toList)] ++ r) = true) : s.size ≤ 1048576 := by
  have h := bound hk
  simp only [List.cons_append, List.nil_append, Rows.uptoBulkAll, string_bulk] at h
  have := Lib.size_eq s
  omega
theorem string_size3 {H : Type} {a b : DataW H} {s : ByteArray} {r : List (DataW H)} (hk : Rows.uptoSmall H ([a, b, .lit (.string s.data.toList)] ++ r) = true) : s.size ≤ 1048576 := by
  have h := bound hk
  simp only [List.cons_append, List.nil_append, Rows.uptoBulkAll, string_bulk] at h
  have := Lib.size_eq s
  omega
/-- One or two arguments, whatever they are. -/
theorem one {H : Type} {a : DataW H} {r : List (DataW H)} (hk : Rows.uptoSmall H ([a] ++ r) = true) : Rows.uptoBulk a ≤ 1048576 := by
  have h := bound hk
  simp only [List.cons_append, List.nil_append, Rows.uptoBulkAll] at h
  omega
theorem two {H : Type} {a b : DataW H} {r : List (DataW H)} (hk : Rows.uptoSmall H ([a, b] ++ r) = true) : Rows.uptoBulk a ≤ 1048576 ∧ Rows.uptoBulk b ≤ 1048576 := by
  have h := bound hk
  simp only [List.cons_append, List.nil_append, Rows.uptoBulkAll] at h
  omega
end Go.Proofs.YtadhhamfikpimaaDoor.Bulk
