/-
  No cell of these rows narrows 'for every input' (looked for: loops, veiled, ifaces, maps, wideKeys, modest, calm, conditions, laid).
  DERIVED. THE GIVEN ROWS OF THIS SEAT. 3 by the template 'for every input the law returns true; each argument reads behind the call as it read before'; 0 by the template 'total and deterministic' (their statements: YthippdmfeeopkabTotals.lean).
  GIVEN WITH THE SEED: the statements are not yours to turn. If you find one false, say at which input.
  Laid BY PROGRAM, IN A SANDBOX (cutbox-rows.mjs): the forced cells as the released guide's own fill.sh prints them over the translation 7d63a6d9d8a77d7e… (all of the seat's roots in one cut). By AI agents, Wed Nov 11 2026. No macro, syntax, notation, axiom, sorry.
-/
import Derived.Test.YthippdmfeeopkabChecked
import GoSem.Claim
import GoSem.ClaimJoined
import GoSem.ClaimMapViews
import Derived.JoinedTies
import Derived.KernelRfl
namespace Go.Proofs.Ythippdmfeeopkab
/- THE CELL 'sum', in the pinned program and in every row, IS THE sha256 OF THE DUMP (.gsa) THAT YthippdmfeeopkabProg.lean LOADS. Nothing in Lean hashes anything: it is a label: what it is worth is what the hold of that sum in a sandbox is worth. -/
noncomputable def Try.pinned : Pinned := { name := "ythippdmfeeopkab", sum := "7d63a6d9d8a77d7ec29a5a24d722bc21848708be5d63d06c65ac04ac9feb0c8f", checked := Try.checked }
namespace Rows
def none {H : Type} : Left H := { results := [], args := [] }

/-- 'contangolaw15.PositionOrder': WHATEVER THE INPUT: true; the input reads as it did. -/
def positionOrderSpec : ChangeSpec := { name := "positionOrder", fn := fun _ => fun
  | [d1, d2] => { results := [.lit (.bool true)], args := [d1, d2] }
  | _ => none }
def positionOrderRow : OpenClaim := { program := "ythippdmfeeopkab", sum := "7d63a6d9d8a77d7ec29a5a24d722bc21848708be5d63d06c65ac04ac9feb0c8f", func := "contango/contangolaw15.PositionOrder", spec := "positionOrder", inPlace := ["internal/bytealg.abigen_runtime_cmpstring"], unfollowed := true, recurses := true, plainKeys := false, apart := false }
def PositionOrderSaid : Prop := positionOrderRow.holds Try.pinned (OpenSpec.ofChange positionOrderSpec)

/-- ITS FALSE NEIGHBOUR: 'it returns false'. Refute it at one input. -/
def positionOrderWrong : ChangeSpec := { name := "positionOrder", fn := fun _ => fun
  | [d1, d2] => { results := [.lit (.bool false)], args := [d1, d2] }
  | _ => none }
def PositionOrderWrongFalsely : Prop := positionOrderRow.holds Try.pinned (OpenSpec.ofChange positionOrderWrong)

/-- 'contangolaw15.PositionKeeps': WHATEVER THE INPUT: true; the input reads as it did. -/
def positionKeepsSpec : ChangeSpec := { name := "positionKeeps", fn := fun _ => fun
  | [d1, d2, d3] => { results := [.lit (.bool true)], args := [d1, d2, d3] }
  | _ => none }
def positionKeepsRow : OpenClaim := { program := "ythippdmfeeopkab", sum := "7d63a6d9d8a77d7ec29a5a24d722bc21848708be5d63d06c65ac04ac9feb0c8f", func := "contango/contangolaw15.PositionKeeps", spec := "positionKeeps", inPlace := ["internal/bytealg.abigen_runtime_cmpstring"], unfollowed := true, recurses := true, plainKeys := false, apart := false }
def PositionKeepsSaid : Prop := positionKeepsRow.holds Try.pinned (OpenSpec.ofChange positionKeepsSpec)

/-- ITS FALSE NEIGHBOUR: 'it returns false'. Refute it at one input. -/
def positionKeepsWrong : ChangeSpec := { name := "positionKeeps", fn := fun _ => fun
  | [d1, d2, d3] => { results := [.lit (.bool false)], args := [d1, d2, d3] }
  | _ => none }
def PositionKeepsWrongFalsely : Prop := positionKeepsRow.holds Try.pinned (OpenSpec.ofChange positionKeepsWrong)

/-- 'contangolaw16.BookFlat': WHATEVER THE INPUT: true; the input reads as it did. -/
def bookFlatSpec : ChangeSpec := { name := "bookFlat", fn := fun _ => fun
  | [d1, d2] => { results := [.lit (.bool true)], args := [d1, d2] }
  | _ => none }
def bookFlatRow : OpenClaim := { program := "ythippdmfeeopkab", sum := "7d63a6d9d8a77d7ec29a5a24d722bc21848708be5d63d06c65ac04ac9feb0c8f", func := "contango/contangolaw16.BookFlat", spec := "bookFlat", inPlace := ["internal/bytealg.abigen_runtime_cmpstring"], unfollowed := true, recurses := true, plainKeys := false, apart := false }
def BookFlatSaid : Prop := bookFlatRow.holds Try.pinned (OpenSpec.ofChange bookFlatSpec)

/-- ITS FALSE NEIGHBOUR: 'it returns false'. Refute it at one input. -/
def bookFlatWrong : ChangeSpec := { name := "bookFlat", fn := fun _ => fun
  | [d1, d2] => { results := [.lit (.bool false)], args := [d1, d2] }
  | _ => none }
def BookFlatWrongFalsely : Prop := bookFlatRow.holds Try.pinned (OpenSpec.ofChange bookFlatWrong)

/- THE SECOND FORM. 'bulk': how many values and letters a reading holds, each counted each time it is reached (what is shared counts as often as it is met; a slice's spare places count too). A statement '..UptoSaid' is the law's where the arguments, and the package variables that the reading takes, are together of bulk at most 1048576: NARROWER than '..Said'. Prove '..Said' where nothing that the law and all that it calls make is longer than what came in: it says more and counts as full. Else prove '..UptoSaid'. A law counts once. -/
mutual
def uptoBulk {H : Type} : DataW H → Nat
  | .lit (.string bytes) => bytes.length + 1
  | .lit _ => 1
  | .nil => 1
  | .ptr d => uptoBulk d + 1
  | .slice elems spare => uptoBulkAll elems + uptoBulkAll spare + 1
  | .agg parts => uptoBulkAll parts + 1
  | .iface _ d => uptoBulk d + 1
  | .map entries => uptoBulkEntries entries + 1
  | .held _ => 1
def uptoBulkAll {H : Type} : List (DataW H) → Nat
  | [] => 0
  | d :: r => uptoBulk d + uptoBulkAll r
def uptoBulkEntries {H : Type} : List (Lit × DataW H) → Nat
  | [] => 0
  | x :: r => uptoBulkEntry x + uptoBulkEntries r
def uptoBulkEntry {H : Type} : Lit × DataW H → Nat
  | (.string bytes, d) => bytes.length + uptoBulk d + 1
  | (_, d) => uptoBulk d + 1
 end
def uptoSmall : (H : Type) → List (DataW H) → Bool := fun _ ds => decide (uptoBulkAll ds ≤ 1048576)
def OpenSpec.upto (s : _root_.Go.ChangeSpec) : _root_.Go.OpenSpec := { _root_.Go.OpenSpec.ofChange s with cond := some uptoSmall }

/-- 'contangolaw15.PositionOrder', WHERE WHAT IT READS IS OF BULK AT MOST 1048576: true; the input reads as it did. -/
def positionOrderUptoRow : OpenClaim := { program := "ythippdmfeeopkab", sum := "7d63a6d9d8a77d7ec29a5a24d722bc21848708be5d63d06c65ac04ac9feb0c8f", func := "contango/contangolaw15.PositionOrder", spec := "positionOrder", inPlace := ["internal/bytealg.abigen_runtime_cmpstring"], unfollowed := true, recurses := true, plainKeys := false, apart := false, narrowed := true }
def PositionOrderUptoSaid : Prop := positionOrderUptoRow.holds Try.pinned (OpenSpec.upto positionOrderSpec)

/-- 'contangolaw15.PositionKeeps', WHERE WHAT IT READS IS OF BULK AT MOST 1048576: true; the input reads as it did. -/
def positionKeepsUptoRow : OpenClaim := { program := "ythippdmfeeopkab", sum := "7d63a6d9d8a77d7ec29a5a24d722bc21848708be5d63d06c65ac04ac9feb0c8f", func := "contango/contangolaw15.PositionKeeps", spec := "positionKeeps", inPlace := ["internal/bytealg.abigen_runtime_cmpstring"], unfollowed := true, recurses := true, plainKeys := false, apart := false, narrowed := true }
def PositionKeepsUptoSaid : Prop := positionKeepsUptoRow.holds Try.pinned (OpenSpec.upto positionKeepsSpec)

/-- 'contangolaw16.BookFlat', WHERE WHAT IT READS IS OF BULK AT MOST 1048576: true; the input reads as it did. -/
def bookFlatUptoRow : OpenClaim := { program := "ythippdmfeeopkab", sum := "7d63a6d9d8a77d7ec29a5a24d722bc21848708be5d63d06c65ac04ac9feb0c8f", func := "contango/contangolaw16.BookFlat", spec := "bookFlat", inPlace := ["internal/bytealg.abigen_runtime_cmpstring"], unfollowed := true, recurses := true, plainKeys := false, apart := false, narrowed := true }
def BookFlatUptoSaid : Prop := bookFlatUptoRow.holds Try.pinned (OpenSpec.upto bookFlatSpec)

end Rows
end Go.Proofs.Ythippdmfeeopkab
