/-
  What a bound on the bulk of the arguments says of a text's bytes and of a list's places.
-/
import Derived.Test.YtkckkchnmgidgaaRows
import Derived.ProofKit
namespace Go.Proofs.Ytkckkchnmgidgaa

theorem bulk_one {H : Type} (d : DataW H) : 1 ≤ Rows.uptoBulk d := by
  cases d with
  | lit l => cases l <;> simp [Rows.uptoBulk]
  | _ => simp [Rows.uptoBulk]
theorem bulk_length {H : Type} (l : List (DataW H)) : l.length ≤ Rows.uptoBulkAll l := by
  induction l with
  | nil => simp [Rows.uptoBulkAll]
  | cons x r ih => have := bulk_one x; simp only [Rows.uptoBulkAll, List.length_cons]; omega
theorem bulk_string {H : Type} (s : ByteArray) : Rows.uptoBulk (DataW.lit (H := H) (.string s.data.toList)) = s.size + 1 := by
  simp [Rows.uptoBulk]
theorem bulk_slice {H : Type} (es sp : List (DataW H)) : es.length + sp.length + 1 ≤ Rows.uptoBulk (.slice es sp) := by
  have h1 := bulk_length es
  have h2 := bulk_length sp
  simp only [Rows.uptoBulk]; omega
theorem bulk_bound {H : Type} {l : List (DataW H)} (hk : Rows.uptoSmall H l = true) : Rows.uptoBulkAll l ≤ 1048576 := of_decide_eq_true hk
theorem bulk_first {H : Type} {d : DataW H} {l : List (DataW H)} (hk : Rows.uptoSmall H (d :: l) = true) : Rows.uptoBulk d ≤ 1048576 := by
  have := bulk_bound hk; simp only [Rows.uptoBulkAll] at this; omega
theorem bulk_second {H : Type} {c d : DataW H} {l : List (DataW H)} (hk : Rows.uptoSmall H (c :: d :: l) = true) : Rows.uptoBulk d ≤ 1048576 := by
  have := bulk_bound hk; simp only [Rows.uptoBulkAll] at this; omega
end Go.Proofs.Ytkckkchnmgidgaa
