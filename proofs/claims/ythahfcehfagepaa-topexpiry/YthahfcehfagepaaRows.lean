/-
  No cell of these rows narrows 'for every input' (looked for: loops, veiled, ifaces, maps, wideKeys, modest, calm, conditions, laid).
  DERIVED. THE GIVEN ROWS OF THIS SEAT. 12 by the template 'for every input the law returns true; each argument reads behind the call as it read before'; 0 by the template 'total and deterministic' (their statements: YthahfcehfagepaaTotals.lean).
  GIVEN WITH THE SEED: the statements are not yours to turn. If you find one false, say at which input.
  Laid BY PROGRAM, IN A SANDBOX (cutbox-rows.mjs): the forced cells as the released guide's own fill.sh prints them over the translation 3f0f397176fab0bf… (all of the seat's roots in one cut). By AI agents, Wed Nov 11 2026. No macro, syntax, notation, axiom, sorry.
-/
import Derived.Test.YthahfcehfagepaaChecked
import GoSem.Claim
import GoSem.ClaimJoined
import GoSem.ClaimMapViews
import Derived.JoinedTies
import Derived.KernelRfl
namespace Go.Proofs.Ythahfcehfagepaa
/- THE CELL 'sum', in the pinned program and in every row, IS THE sha256 OF THE DUMP (.gsa) THAT YthahfcehfagepaaProg.lean LOADS. Nothing in Lean hashes anything: it is a label: what it is worth is what the hold of that sum in a sandbox is worth. -/
noncomputable def Try.pinned : Pinned := { name := "ythahfcehfagepaa", sum := "3f0f397176fab0bfac8951fbdf2be95e80bc81862778f22c68ee77463e1a97f1", checked := Try.checked }
namespace Rows
def none {H : Type} : Left H := { results := [], args := [] }

/-- 'contangolaw05.DateOf': WHATEVER THE INPUT: true; the input reads as it did. -/
def dateOfSpec : ChangeSpec := { name := "dateOf", fn := fun _ => fun
  | [d1, d2, d3] => { results := [.lit (.bool true)], args := [d1, d2, d3] }
  | _ => none }
def dateOfRow : OpenClaim := { program := "ythahfcehfagepaa", sum := "3f0f397176fab0bfac8951fbdf2be95e80bc81862778f22c68ee77463e1a97f1", func := "contango/contangolaw05.DateOf", spec := "dateOf", apart := false }
def DateOfSaid : Prop := dateOfRow.holds Try.pinned (OpenSpec.ofChange dateOfSpec)

/-- ITS FALSE NEIGHBOUR: 'it returns false'. Refute it at one input. -/
def dateOfWrong : ChangeSpec := { name := "dateOf", fn := fun _ => fun
  | [d1, d2, d3] => { results := [.lit (.bool false)], args := [d1, d2, d3] }
  | _ => none }
def DateOfWrongFalsely : Prop := dateOfRow.holds Try.pinned (OpenSpec.ofChange dateOfWrong)

/-- 'contangolaw05.DateSplits': WHATEVER THE INPUT: true; the input reads as it did. -/
def dateSplitsSpec : ChangeSpec := { name := "dateSplits", fn := fun _ => fun
  | [d] => { results := [.lit (.bool true)], args := [d] }
  | _ => none }
def dateSplitsRow : OpenClaim := { program := "ythahfcehfagepaa", sum := "3f0f397176fab0bfac8951fbdf2be95e80bc81862778f22c68ee77463e1a97f1", func := "contango/contangolaw05.DateSplits", spec := "dateSplits", apart := false }
def DateSplitsSaid : Prop := dateSplitsRow.holds Try.pinned (OpenSpec.ofChange dateSplitsSpec)

/-- ITS FALSE NEIGHBOUR: 'it returns false'. Refute it at one input. -/
def dateSplitsWrong : ChangeSpec := { name := "dateSplits", fn := fun _ => fun
  | [d] => { results := [.lit (.bool false)], args := [d] }
  | _ => none }
def DateSplitsWrongFalsely : Prop := dateSplitsRow.holds Try.pinned (OpenSpec.ofChange dateSplitsWrong)

/-- 'contangolaw05.DateParses': WHATEVER THE INPUT: true; the input reads as it did. -/
def dateParsesSpec : ChangeSpec := { name := "dateParses", fn := fun _ => fun
  | [d] => { results := [.lit (.bool true)], args := [d] }
  | _ => none }
def dateParsesRow : OpenClaim := { program := "ythahfcehfagepaa", sum := "3f0f397176fab0bfac8951fbdf2be95e80bc81862778f22c68ee77463e1a97f1", func := "contango/contangolaw05.DateParses", spec := "dateParses", apart := false }
def DateParsesSaid : Prop := dateParsesRow.holds Try.pinned (OpenSpec.ofChange dateParsesSpec)

/-- ITS FALSE NEIGHBOUR: 'it returns false'. Refute it at one input. -/
def dateParsesWrong : ChangeSpec := { name := "dateParses", fn := fun _ => fun
  | [d] => { results := [.lit (.bool false)], args := [d] }
  | _ => none }
def DateParsesWrongFalsely : Prop := dateParsesRow.holds Try.pinned (OpenSpec.ofChange dateParsesWrong)

/-- 'contangolaw05.DateMonths': WHATEVER THE INPUT: true; the input reads as it did. -/
def dateMonthsSpec : ChangeSpec := { name := "dateMonths", fn := fun _ => fun
  | [d1, d2] => { results := [.lit (.bool true)], args := [d1, d2] }
  | _ => none }
def dateMonthsRow : OpenClaim := { program := "ythahfcehfagepaa", sum := "3f0f397176fab0bfac8951fbdf2be95e80bc81862778f22c68ee77463e1a97f1", func := "contango/contangolaw05.DateMonths", spec := "dateMonths", apart := false }
def DateMonthsSaid : Prop := dateMonthsRow.holds Try.pinned (OpenSpec.ofChange dateMonthsSpec)

/-- ITS FALSE NEIGHBOUR: 'it returns false'. Refute it at one input. -/
def dateMonthsWrong : ChangeSpec := { name := "dateMonths", fn := fun _ => fun
  | [d1, d2] => { results := [.lit (.bool false)], args := [d1, d2] }
  | _ => none }
def DateMonthsWrongFalsely : Prop := dateMonthsRow.holds Try.pinned (OpenSpec.ofChange dateMonthsWrong)

/-- 'contangolaw05.DateNth': WHATEVER THE INPUT: true; the input reads as it did. -/
def dateNthSpec : ChangeSpec := { name := "dateNth", fn := fun _ => fun
  | [d1, d2, d3] => { results := [.lit (.bool true)], args := [d1, d2, d3] }
  | _ => none }
def dateNthRow : OpenClaim := { program := "ythahfcehfagepaa", sum := "3f0f397176fab0bfac8951fbdf2be95e80bc81862778f22c68ee77463e1a97f1", func := "contango/contangolaw05.DateNth", spec := "dateNth", apart := false }
def DateNthSaid : Prop := dateNthRow.holds Try.pinned (OpenSpec.ofChange dateNthSpec)

/-- ITS FALSE NEIGHBOUR: 'it returns false'. Refute it at one input. -/
def dateNthWrong : ChangeSpec := { name := "dateNth", fn := fun _ => fun
  | [d1, d2, d3] => { results := [.lit (.bool false)], args := [d1, d2, d3] }
  | _ => none }
def DateNthWrongFalsely : Prop := dateNthRow.holds Try.pinned (OpenSpec.ofChange dateNthWrong)

/-- 'contangolaw05.DateNext': WHATEVER THE INPUT: true; the input reads as it did. -/
def dateNextSpec : ChangeSpec := { name := "dateNext", fn := fun _ => fun
  | [d] => { results := [.lit (.bool true)], args := [d] }
  | _ => none }
def dateNextRow : OpenClaim := { program := "ythahfcehfagepaa", sum := "3f0f397176fab0bfac8951fbdf2be95e80bc81862778f22c68ee77463e1a97f1", func := "contango/contangolaw05.DateNext", spec := "dateNext", apart := false }
def DateNextSaid : Prop := dateNextRow.holds Try.pinned (OpenSpec.ofChange dateNextSpec)

/-- ITS FALSE NEIGHBOUR: 'it returns false'. Refute it at one input. -/
def dateNextWrong : ChangeSpec := { name := "dateNext", fn := fun _ => fun
  | [d] => { results := [.lit (.bool false)], args := [d] }
  | _ => none }
def DateNextWrongFalsely : Prop := dateNextRow.holds Try.pinned (OpenSpec.ofChange dateNextWrong)

/-- 'contangolaw06.WorkdayTells': WHATEVER THE INPUT: true; the input reads as it did. -/
def workdayTellsSpec : ChangeSpec := { name := "workdayTells", fn := fun _ => fun
  | [d1, d2] => { results := [.lit (.bool true)], args := [d1, d2] }
  | _ => none }
def workdayTellsRow : OpenClaim := { program := "ythahfcehfagepaa", sum := "3f0f397176fab0bfac8951fbdf2be95e80bc81862778f22c68ee77463e1a97f1", func := "contango/contangolaw06.WorkdayTells", spec := "workdayTells", unfollowed := true, recurses := true, apart := false }
def WorkdayTellsSaid : Prop := workdayTellsRow.holds Try.pinned (OpenSpec.ofChange workdayTellsSpec)

/-- ITS FALSE NEIGHBOUR: 'it returns false'. Refute it at one input. -/
def workdayTellsWrong : ChangeSpec := { name := "workdayTells", fn := fun _ => fun
  | [d1, d2] => { results := [.lit (.bool false)], args := [d1, d2] }
  | _ => none }
def WorkdayTellsWrongFalsely : Prop := workdayTellsRow.holds Try.pinned (OpenSpec.ofChange workdayTellsWrong)

/-- 'contangolaw06.WorkdayAdds': WHATEVER THE INPUT: true; the input reads as it did. -/
def workdayAddsSpec : ChangeSpec := { name := "workdayAdds", fn := fun _ => fun
  | [d1, d2, d3] => { results := [.lit (.bool true)], args := [d1, d2, d3] }
  | _ => none }
def workdayAddsRow : OpenClaim := { program := "ythahfcehfagepaa", sum := "3f0f397176fab0bfac8951fbdf2be95e80bc81862778f22c68ee77463e1a97f1", func := "contango/contangolaw06.WorkdayAdds", spec := "workdayAdds", unfollowed := true, recurses := true, apart := false }
def WorkdayAddsSaid : Prop := workdayAddsRow.holds Try.pinned (OpenSpec.ofChange workdayAddsSpec)

/-- ITS FALSE NEIGHBOUR: 'it returns false'. Refute it at one input. -/
def workdayAddsWrong : ChangeSpec := { name := "workdayAdds", fn := fun _ => fun
  | [d1, d2, d3] => { results := [.lit (.bool false)], args := [d1, d2, d3] }
  | _ => none }
def WorkdayAddsWrongFalsely : Prop := workdayAddsRow.holds Try.pinned (OpenSpec.ofChange workdayAddsWrong)

/-- 'contangolaw06.WorkdayExpires': WHATEVER THE INPUT: true; the input reads as it did. -/
def workdayExpiresSpec : ChangeSpec := { name := "workdayExpires", fn := fun _ => fun
  | [d1, d2, d3] => { results := [.lit (.bool true)], args := [d1, d2, d3] }
  | _ => none }
def workdayExpiresRow : OpenClaim := { program := "ythahfcehfagepaa", sum := "3f0f397176fab0bfac8951fbdf2be95e80bc81862778f22c68ee77463e1a97f1", func := "contango/contangolaw06.WorkdayExpires", spec := "workdayExpires", unfollowed := true, recurses := true, apart := false }
def WorkdayExpiresSaid : Prop := workdayExpiresRow.holds Try.pinned (OpenSpec.ofChange workdayExpiresSpec)

/-- ITS FALSE NEIGHBOUR: 'it returns false'. Refute it at one input. -/
def workdayExpiresWrong : ChangeSpec := { name := "workdayExpires", fn := fun _ => fun
  | [d1, d2, d3] => { results := [.lit (.bool false)], args := [d1, d2, d3] }
  | _ => none }
def WorkdayExpiresWrongFalsely : Prop := workdayExpiresRow.holds Try.pinned (OpenSpec.ofChange workdayExpiresWrong)

/-- 'contangolaw06.WorkdayBack': WHATEVER THE INPUT: true; the input reads as it did. -/
def workdayBackSpec : ChangeSpec := { name := "workdayBack", fn := fun _ => fun
  | [d1, d2, d3] => { results := [.lit (.bool true)], args := [d1, d2, d3] }
  | _ => none }
def workdayBackRow : OpenClaim := { program := "ythahfcehfagepaa", sum := "3f0f397176fab0bfac8951fbdf2be95e80bc81862778f22c68ee77463e1a97f1", func := "contango/contangolaw06.WorkdayBack", spec := "workdayBack", unfollowed := true, recurses := true, apart := false }
def WorkdayBackSaid : Prop := workdayBackRow.holds Try.pinned (OpenSpec.ofChange workdayBackSpec)

/-- ITS FALSE NEIGHBOUR: 'it returns false'. Refute it at one input. -/
def workdayBackWrong : ChangeSpec := { name := "workdayBack", fn := fun _ => fun
  | [d1, d2, d3] => { results := [.lit (.bool false)], args := [d1, d2, d3] }
  | _ => none }
def WorkdayBackWrongFalsely : Prop := workdayBackRow.holds Try.pinned (OpenSpec.ofChange workdayBackWrong)

/-- 'contangolaw06.WorkdayCounts': WHATEVER THE INPUT: true; the input reads as it did. -/
def workdayCountsSpec : ChangeSpec := { name := "workdayCounts", fn := fun _ => fun
  | [d1, d2, d3] => { results := [.lit (.bool true)], args := [d1, d2, d3] }
  | _ => none }
def workdayCountsRow : OpenClaim := { program := "ythahfcehfagepaa", sum := "3f0f397176fab0bfac8951fbdf2be95e80bc81862778f22c68ee77463e1a97f1", func := "contango/contangolaw06.WorkdayCounts", spec := "workdayCounts", unfollowed := true, recurses := true, apart := false }
def WorkdayCountsSaid : Prop := workdayCountsRow.holds Try.pinned (OpenSpec.ofChange workdayCountsSpec)

/-- ITS FALSE NEIGHBOUR: 'it returns false'. Refute it at one input. -/
def workdayCountsWrong : ChangeSpec := { name := "workdayCounts", fn := fun _ => fun
  | [d1, d2, d3] => { results := [.lit (.bool false)], args := [d1, d2, d3] }
  | _ => none }
def WorkdayCountsWrongFalsely : Prop := workdayCountsRow.holds Try.pinned (OpenSpec.ofChange workdayCountsWrong)

/-- 'contangotop.TopExpiry': WHATEVER THE INPUT: true; the input reads as it did. -/
def topExpirySpec : ChangeSpec := { name := "topExpiry", fn := fun _ => fun
  | [d1, d2, d3] => { results := [.lit (.bool true)], args := [d1, d2, d3] }
  | _ => none }
def topExpiryRow : OpenClaim := { program := "ythahfcehfagepaa", sum := "3f0f397176fab0bfac8951fbdf2be95e80bc81862778f22c68ee77463e1a97f1", func := "contango/contangotop.TopExpiry", spec := "topExpiry", unfollowed := true, recurses := true, apart := false }
def TopExpirySaid : Prop := topExpiryRow.holds Try.pinned (OpenSpec.ofChange topExpirySpec)

/-- ITS FALSE NEIGHBOUR: 'it returns false'. Refute it at one input. -/
def topExpiryWrong : ChangeSpec := { name := "topExpiry", fn := fun _ => fun
  | [d1, d2, d3] => { results := [.lit (.bool false)], args := [d1, d2, d3] }
  | _ => none }
def TopExpiryWrongFalsely : Prop := topExpiryRow.holds Try.pinned (OpenSpec.ofChange topExpiryWrong)

/- THE SECOND FORM. 'bulk': how many values and letters a reading holds, each counted each time it is reached (what is shared counts as often as it is met; a slice's spare places count too). A statement '..UptoSaid' is the law's where the arguments, and the package variables that the reading takes, are together of bulk at most 1048576: NARROWER than '..Said'. Prove '..Said' where nothing that the law and all that it calls make is longer than what came in: it says more and counts as full. Else prove '..UptoSaid'. A law counts once. -/
mutual
def uptoBulk {H : Type} : DataW H → Nat
  | .lit (.string bytes) => bytes.length + 1
  | .lit _ => 1
  | .nil => 1
  | .ptr d => uptoBulk d + 1
  | .slice elems spare => uptoBulkAll elems + uptoBulkAll spare + 1
  | .agg parts => uptoBulkAll parts + 1
  | .iface _ d => uptoBulk d + 1
  | .map entries => uptoBulkEntries entries + 1
  | .held _ => 1
def uptoBulkAll {H : Type} : List (DataW H) → Nat
  | [] => 0
  | d :: r => uptoBulk d + uptoBulkAll r
def uptoBulkEntries {H : Type} : List (Lit × DataW H) → Nat
  | [] => 0
  | x :: r => uptoBulkEntry x + uptoBulkEntries r
def uptoBulkEntry {H : Type} : Lit × DataW H → Nat
  | (.string bytes, d) => bytes.length + uptoBulk d + 1
  | (_, d) => uptoBulk d + 1
 end
def uptoSmall : (H : Type) → List (DataW H) → Bool := fun _ ds => decide (uptoBulkAll ds ≤ 1048576)
def OpenSpec.upto (s : _root_.Go.ChangeSpec) : _root_.Go.OpenSpec := { _root_.Go.OpenSpec.ofChange s with cond := some uptoSmall }

/-- 'contangolaw05.DateOf', WHERE WHAT IT READS IS OF BULK AT MOST 1048576: true; the input reads as it did. -/
def dateOfUptoRow : OpenClaim := { program := "ythahfcehfagepaa", sum := "3f0f397176fab0bfac8951fbdf2be95e80bc81862778f22c68ee77463e1a97f1", func := "contango/contangolaw05.DateOf", spec := "dateOf", apart := false, narrowed := true }
def DateOfUptoSaid : Prop := dateOfUptoRow.holds Try.pinned (OpenSpec.upto dateOfSpec)

/-- 'contangolaw05.DateSplits', WHERE WHAT IT READS IS OF BULK AT MOST 1048576: true; the input reads as it did. -/
def dateSplitsUptoRow : OpenClaim := { program := "ythahfcehfagepaa", sum := "3f0f397176fab0bfac8951fbdf2be95e80bc81862778f22c68ee77463e1a97f1", func := "contango/contangolaw05.DateSplits", spec := "dateSplits", apart := false, narrowed := true }
def DateSplitsUptoSaid : Prop := dateSplitsUptoRow.holds Try.pinned (OpenSpec.upto dateSplitsSpec)

/-- 'contangolaw05.DateParses', WHERE WHAT IT READS IS OF BULK AT MOST 1048576: true; the input reads as it did. -/
def dateParsesUptoRow : OpenClaim := { program := "ythahfcehfagepaa", sum := "3f0f397176fab0bfac8951fbdf2be95e80bc81862778f22c68ee77463e1a97f1", func := "contango/contangolaw05.DateParses", spec := "dateParses", apart := false, narrowed := true }
def DateParsesUptoSaid : Prop := dateParsesUptoRow.holds Try.pinned (OpenSpec.upto dateParsesSpec)

/-- 'contangolaw05.DateMonths', WHERE WHAT IT READS IS OF BULK AT MOST 1048576: true; the input reads as it did. -/
def dateMonthsUptoRow : OpenClaim := { program := "ythahfcehfagepaa", sum := "3f0f397176fab0bfac8951fbdf2be95e80bc81862778f22c68ee77463e1a97f1", func := "contango/contangolaw05.DateMonths", spec := "dateMonths", apart := false, narrowed := true }
def DateMonthsUptoSaid : Prop := dateMonthsUptoRow.holds Try.pinned (OpenSpec.upto dateMonthsSpec)

/-- 'contangolaw05.DateNth', WHERE WHAT IT READS IS OF BULK AT MOST 1048576: true; the input reads as it did. -/
def dateNthUptoRow : OpenClaim := { program := "ythahfcehfagepaa", sum := "3f0f397176fab0bfac8951fbdf2be95e80bc81862778f22c68ee77463e1a97f1", func := "contango/contangolaw05.DateNth", spec := "dateNth", apart := false, narrowed := true }
def DateNthUptoSaid : Prop := dateNthUptoRow.holds Try.pinned (OpenSpec.upto dateNthSpec)

/-- 'contangolaw05.DateNext', WHERE WHAT IT READS IS OF BULK AT MOST 1048576: true; the input reads as it did. -/
def dateNextUptoRow : OpenClaim := { program := "ythahfcehfagepaa", sum := "3f0f397176fab0bfac8951fbdf2be95e80bc81862778f22c68ee77463e1a97f1", func := "contango/contangolaw05.DateNext", spec := "dateNext", apart := false, narrowed := true }
def DateNextUptoSaid : Prop := dateNextUptoRow.holds Try.pinned (OpenSpec.upto dateNextSpec)

/-- 'contangolaw06.WorkdayTells', WHERE WHAT IT READS IS OF BULK AT MOST 1048576: true; the input reads as it did. -/
def workdayTellsUptoRow : OpenClaim := { program := "ythahfcehfagepaa", sum := "3f0f397176fab0bfac8951fbdf2be95e80bc81862778f22c68ee77463e1a97f1", func := "contango/contangolaw06.WorkdayTells", spec := "workdayTells", unfollowed := true, recurses := true, apart := false, narrowed := true }
def WorkdayTellsUptoSaid : Prop := workdayTellsUptoRow.holds Try.pinned (OpenSpec.upto workdayTellsSpec)

/-- 'contangolaw06.WorkdayAdds', WHERE WHAT IT READS IS OF BULK AT MOST 1048576: true; the input reads as it did. -/
def workdayAddsUptoRow : OpenClaim := { program := "ythahfcehfagepaa", sum := "3f0f397176fab0bfac8951fbdf2be95e80bc81862778f22c68ee77463e1a97f1", func := "contango/contangolaw06.WorkdayAdds", spec := "workdayAdds", unfollowed := true, recurses := true, apart := false, narrowed := true }
def WorkdayAddsUptoSaid : Prop := workdayAddsUptoRow.holds Try.pinned (OpenSpec.upto workdayAddsSpec)

/-- 'contangolaw06.WorkdayExpires', WHERE WHAT IT READS IS OF BULK AT MOST 1048576: true; the input reads as it did. -/
def workdayExpiresUptoRow : OpenClaim := { program := "ythahfcehfagepaa", sum := "3f0f397176fab0bfac8951fbdf2be95e80bc81862778f22c68ee77463e1a97f1", func := "contango/contangolaw06.WorkdayExpires", spec := "workdayExpires", unfollowed := true, recurses := true, apart := false, narrowed := true }
def WorkdayExpiresUptoSaid : Prop := workdayExpiresUptoRow.holds Try.pinned (OpenSpec.upto workdayExpiresSpec)

/-- 'contangolaw06.WorkdayBack', WHERE WHAT IT READS IS OF BULK AT MOST 1048576: true; the input reads as it did. -/
def workdayBackUptoRow : OpenClaim := { program := "ythahfcehfagepaa", sum := "3f0f397176fab0bfac8951fbdf2be95e80bc81862778f22c68ee77463e1a97f1", func := "contango/contangolaw06.WorkdayBack", spec := "workdayBack", unfollowed := true, recurses := true, apart := false, narrowed := true }
def WorkdayBackUptoSaid : Prop := workdayBackUptoRow.holds Try.pinned (OpenSpec.upto workdayBackSpec)

/-- 'contangolaw06.WorkdayCounts', WHERE WHAT IT READS IS OF BULK AT MOST 1048576: true; the input reads as it did. -/
def workdayCountsUptoRow : OpenClaim := { program := "ythahfcehfagepaa", sum := "3f0f397176fab0bfac8951fbdf2be95e80bc81862778f22c68ee77463e1a97f1", func := "contango/contangolaw06.WorkdayCounts", spec := "workdayCounts", unfollowed := true, recurses := true, apart := false, narrowed := true }
def WorkdayCountsUptoSaid : Prop := workdayCountsUptoRow.holds Try.pinned (OpenSpec.upto workdayCountsSpec)

/-- 'contangotop.TopExpiry', WHERE WHAT IT READS IS OF BULK AT MOST 1048576: true; the input reads as it did. -/
def topExpiryUptoRow : OpenClaim := { program := "ythahfcehfagepaa", sum := "3f0f397176fab0bfac8951fbdf2be95e80bc81862778f22c68ee77463e1a97f1", func := "contango/contangotop.TopExpiry", spec := "topExpiry", unfollowed := true, recurses := true, apart := false, narrowed := true }
def TopExpiryUptoSaid : Prop := topExpiryUptoRow.holds Try.pinned (OpenSpec.upto topExpirySpec)

end Rows
end Go.Proofs.Ythahfcehfagepaa
