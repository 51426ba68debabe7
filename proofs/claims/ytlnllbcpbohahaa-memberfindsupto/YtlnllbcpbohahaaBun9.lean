/- Put together: Upto. -/
import Derived.Test.YtlnllbcpbohahaaRows
import Derived.ProofKit
import Derived.OpenShut
import Derived.ShutString
import Derived.ChangeOld
import Derived.JoinedCond
namespace Go.Proofs.Ytlnllbcpbohahaa
open Go.ChangeShapes Go.WideShapes Go.ChangeAt Go.RowKit

theorem len_bulkAll {H : Type} (l : List (DataW H)) : l.length ≤ Rows.uptoBulkAll l := by
  induction l with
  | nil => simp
  | cons x r ih =>
    have : 1 ≤ Rows.uptoBulk x := by
      cases x with
      | lit l => cases l <;> simp [Rows.uptoBulk]
      | _ => simp [Rows.uptoBulk]
    simp only [Rows.uptoBulkAll, List.length_cons]; omega

theorem bulk_lits {H : Type} (a b : List Int) : a.length ≤ Rows.uptoBulk (DataW.slice (H := H) (lits .i64 a) (lits .i64 b)) := by
  have h := len_bulkAll (H := H) (lits .i64 a)
  have e : (lits (H := H) .i64 a).length = a.length := by simp [lits]
  simp only [Rows.uptoBulk]
  omega
end Go.Proofs.Ytlnllbcpbohahaa
