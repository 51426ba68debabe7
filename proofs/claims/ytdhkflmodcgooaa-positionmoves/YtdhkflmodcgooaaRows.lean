/-
  No cell of these rows narrows 'for every input' (looked for: loops, veiled, ifaces, maps, wideKeys, modest, calm, conditions, laid).
  DERIVED. THE GIVEN ROWS OF THIS SEAT. 5 by the template 'for every input the law returns true; each argument reads behind the call as it read before'; 0 by the template 'total and deterministic' (their statements: YtdhkflmodcgooaaTotals.lean).
  GIVEN WITH THE SEED: the statements are not yours to turn. If you find one false, say at which input.
  Laid BY PROGRAM, IN A SANDBOX (cutbox-rows.mjs): the forced cells as the released guide's own fill.sh prints them over the translation 637f282bb7dbde97… (all of the seat's roots in one cut). By AI agents, Wed Nov 11 2026. No macro, syntax, notation, axiom, sorry.
-/
import Derived.Test.YtdhkflmodcgooaaChecked
import GoSem.Claim
import GoSem.ClaimJoined
import GoSem.ClaimMapViews
import Derived.JoinedTies
import Derived.KernelRfl
namespace Go.Proofs.Ytdhkflmodcgooaa
/- THE CELL 'sum', in the pinned program and in every row, IS THE sha256 OF THE DUMP (.gsa) THAT YtdhkflmodcgooaaProg.lean LOADS. Nothing in Lean hashes anything: it is a label: what it is worth is what the hold of that sum in a sandbox is worth. -/
noncomputable def Try.pinned : Pinned := { name := "ytdhkflmodcgooaa", sum := "637f282bb7dbde971e673f964bc3e960caae72a6c85eac17e1395ab2c92d53a4", checked := Try.checked }
namespace Rows
def none {H : Type} : Left H := { results := [], args := [] }

/-- 'contangolaw11.MemberKeeps': WHATEVER THE INPUT: true; the input reads as it did. -/
def memberKeepsSpec : ChangeSpec := { name := "memberKeeps", fn := fun _ => fun
  | [d] => { results := [.lit (.bool true)], args := [d] }
  | _ => none }
def memberKeepsRow : OpenClaim := { program := "ytdhkflmodcgooaa", sum := "637f282bb7dbde971e673f964bc3e960caae72a6c85eac17e1395ab2c92d53a4", func := "contango/contangolaw11.MemberKeeps", spec := "memberKeeps", unfollowed := true, recurses := true, plainKeys := false, apart := false }
def MemberKeepsSaid : Prop := memberKeepsRow.holds Try.pinned (OpenSpec.ofChange memberKeepsSpec)

/-- ITS FALSE NEIGHBOUR: 'it returns false'. Refute it at one input. -/
def memberKeepsWrong : ChangeSpec := { name := "memberKeeps", fn := fun _ => fun
  | [d] => { results := [.lit (.bool false)], args := [d] }
  | _ => none }
def MemberKeepsWrongFalsely : Prop := memberKeepsRow.holds Try.pinned (OpenSpec.ofChange memberKeepsWrong)

/-- 'contangolaw15.PositionChecks': WHATEVER THE INPUT: true; the input reads as it did. -/
def positionChecksSpec : ChangeSpec := { name := "positionChecks", fn := fun _ => fun
  | [d1, d2] => { results := [.lit (.bool true)], args := [d1, d2] }
  | _ => none }
def positionChecksRow : OpenClaim := { program := "ytdhkflmodcgooaa", sum := "637f282bb7dbde971e673f964bc3e960caae72a6c85eac17e1395ab2c92d53a4", func := "contango/contangolaw15.PositionChecks", spec := "positionChecks", inPlace := ["internal/bytealg.abigen_runtime_cmpstring"], unfollowed := true, recurses := true, plainKeys := false, apart := false }
def PositionChecksSaid : Prop := positionChecksRow.holds Try.pinned (OpenSpec.ofChange positionChecksSpec)

/-- ITS FALSE NEIGHBOUR: 'it returns false'. Refute it at one input. -/
def positionChecksWrong : ChangeSpec := { name := "positionChecks", fn := fun _ => fun
  | [d1, d2] => { results := [.lit (.bool false)], args := [d1, d2] }
  | _ => none }
def PositionChecksWrongFalsely : Prop := positionChecksRow.holds Try.pinned (OpenSpec.ofChange positionChecksWrong)

/-- 'contangolaw15.PositionApplies': WHATEVER THE INPUT: true; the input reads as it did. -/
def positionAppliesSpec : ChangeSpec := { name := "positionApplies", fn := fun _ => fun
  | [d1, d2, d3] => { results := [.lit (.bool true)], args := [d1, d2, d3] }
  | _ => none }
def positionAppliesRow : OpenClaim := { program := "ytdhkflmodcgooaa", sum := "637f282bb7dbde971e673f964bc3e960caae72a6c85eac17e1395ab2c92d53a4", func := "contango/contangolaw15.PositionApplies", spec := "positionApplies", inPlace := ["internal/bytealg.abigen_runtime_cmpstring"], unfollowed := true, recurses := true, plainKeys := false, apart := false }
def PositionAppliesSaid : Prop := positionAppliesRow.holds Try.pinned (OpenSpec.ofChange positionAppliesSpec)

/-- ITS FALSE NEIGHBOUR: 'it returns false'. Refute it at one input. -/
def positionAppliesWrong : ChangeSpec := { name := "positionApplies", fn := fun _ => fun
  | [d1, d2, d3] => { results := [.lit (.bool false)], args := [d1, d2, d3] }
  | _ => none }
def PositionAppliesWrongFalsely : Prop := positionAppliesRow.holds Try.pinned (OpenSpec.ofChange positionAppliesWrong)

/-- 'contangolaw15.PositionMoves': WHATEVER THE INPUT: true; the input reads as it did. -/
def positionMovesSpec : ChangeSpec := { name := "positionMoves", fn := fun _ => fun
  | [d1, d2, d3] => { results := [.lit (.bool true)], args := [d1, d2, d3] }
  | _ => none }
def positionMovesRow : OpenClaim := { program := "ytdhkflmodcgooaa", sum := "637f282bb7dbde971e673f964bc3e960caae72a6c85eac17e1395ab2c92d53a4", func := "contango/contangolaw15.PositionMoves", spec := "positionMoves", inPlace := ["internal/bytealg.abigen_runtime_cmpstring"], unfollowed := true, recurses := true, plainKeys := false, apart := false }
def PositionMovesSaid : Prop := positionMovesRow.holds Try.pinned (OpenSpec.ofChange positionMovesSpec)

/-- ITS FALSE NEIGHBOUR: 'it returns false'. Refute it at one input. -/
def positionMovesWrong : ChangeSpec := { name := "positionMoves", fn := fun _ => fun
  | [d1, d2, d3] => { results := [.lit (.bool false)], args := [d1, d2, d3] }
  | _ => none }
def PositionMovesWrongFalsely : Prop := positionMovesRow.holds Try.pinned (OpenSpec.ofChange positionMovesWrong)

/-- 'contangolaw15.PositionKeeps': WHATEVER THE INPUT: true; the input reads as it did. -/
def positionKeepsSpec : ChangeSpec := { name := "positionKeeps", fn := fun _ => fun
  | [d1, d2, d3] => { results := [.lit (.bool true)], args := [d1, d2, d3] }
  | _ => none }
def positionKeepsRow : OpenClaim := { program := "ytdhkflmodcgooaa", sum := "637f282bb7dbde971e673f964bc3e960caae72a6c85eac17e1395ab2c92d53a4", func := "contango/contangolaw15.PositionKeeps", spec := "positionKeeps", inPlace := ["internal/bytealg.abigen_runtime_cmpstring"], unfollowed := true, recurses := true, plainKeys := false, apart := false }
def PositionKeepsSaid : Prop := positionKeepsRow.holds Try.pinned (OpenSpec.ofChange positionKeepsSpec)

/-- ITS FALSE NEIGHBOUR: 'it returns false'. Refute it at one input. -/
def positionKeepsWrong : ChangeSpec := { name := "positionKeeps", fn := fun _ => fun
  | [d1, d2, d3] => { results := [.lit (.bool false)], args := [d1, d2, d3] }
  | _ => none }
def PositionKeepsWrongFalsely : Prop := positionKeepsRow.holds Try.pinned (OpenSpec.ofChange positionKeepsWrong)

/- THE SECOND FORM. 'bulk': how many values and letters a reading holds, each counted each time it is reached (what is shared counts as often as it is met; a slice's spare places count too). A statement '..UptoSaid' is the law's where the arguments, and the package variables that the reading takes, are together of bulk at most 1048576: NARROWER than '..Said'. Prove '..Said' where nothing that the law and all that it calls make is longer than what came in: it says more and counts as full. Else prove '..UptoSaid'. A law counts once. -/
mutual
def uptoBulk {H : Type} : DataW H → Nat
  | .lit (.string bytes) => bytes.length + 1
  | .lit _ => 1
  | .nil => 1
  | .ptr d => uptoBulk d + 1
  | .slice elems spare => uptoBulkAll elems + uptoBulkAll spare + 1
  | .agg parts => uptoBulkAll parts + 1
  | .iface _ d => uptoBulk d + 1
  | .map entries => uptoBulkEntries entries + 1
  | .held _ => 1
def uptoBulkAll {H : Type} : List (DataW H) → Nat
  | [] => 0
  | d :: r => uptoBulk d + uptoBulkAll r
def uptoBulkEntries {H : Type} : List (Lit × DataW H) → Nat
  | [] => 0
  | x :: r => uptoBulkEntry x + uptoBulkEntries r
def uptoBulkEntry {H : Type} : Lit × DataW H → Nat
  | (.string bytes, d) => bytes.length + uptoBulk d + 1
  | (_, d) => uptoBulk d + 1
 end
def uptoSmall : (H : Type) → List (DataW H) → Bool := fun _ ds => decide (uptoBulkAll ds ≤ 1048576)
def OpenSpec.upto (s : _root_.Go.ChangeSpec) : _root_.Go.OpenSpec := { _root_.Go.OpenSpec.ofChange s with cond := some uptoSmall }

/-- 'contangolaw11.MemberKeeps', WHERE WHAT IT READS IS OF BULK AT MOST 1048576: true; the input reads as it did. -/
def memberKeepsUptoRow : OpenClaim := { program := "ytdhkflmodcgooaa", sum := "637f282bb7dbde971e673f964bc3e960caae72a6c85eac17e1395ab2c92d53a4", func := "contango/contangolaw11.MemberKeeps", spec := "memberKeeps", unfollowed := true, recurses := true, plainKeys := false, apart := false, narrowed := true }
def MemberKeepsUptoSaid : Prop := memberKeepsUptoRow.holds Try.pinned (OpenSpec.upto memberKeepsSpec)

/-- 'contangolaw15.PositionChecks', WHERE WHAT IT READS IS OF BULK AT MOST 1048576: true; the input reads as it did. -/
def positionChecksUptoRow : OpenClaim := { program := "ytdhkflmodcgooaa", sum := "637f282bb7dbde971e673f964bc3e960caae72a6c85eac17e1395ab2c92d53a4", func := "contango/contangolaw15.PositionChecks", spec := "positionChecks", inPlace := ["internal/bytealg.abigen_runtime_cmpstring"], unfollowed := true, recurses := true, plainKeys := false, apart := false, narrowed := true }
def PositionChecksUptoSaid : Prop := positionChecksUptoRow.holds Try.pinned (OpenSpec.upto positionChecksSpec)

/-- 'contangolaw15.PositionApplies', WHERE WHAT IT READS IS OF BULK AT MOST 1048576: true; the input reads as it did. -/
def positionAppliesUptoRow : OpenClaim := { program := "ytdhkflmodcgooaa", sum := "637f282bb7dbde971e673f964bc3e960caae72a6c85eac17e1395ab2c92d53a4", func := "contango/contangolaw15.PositionApplies", spec := "positionApplies", inPlace := ["internal/bytealg.abigen_runtime_cmpstring"], unfollowed := true, recurses := true, plainKeys := false, apart := false, narrowed := true }
def PositionAppliesUptoSaid : Prop := positionAppliesUptoRow.holds Try.pinned (OpenSpec.upto positionAppliesSpec)

/-- 'contangolaw15.PositionMoves', WHERE WHAT IT READS IS OF BULK AT MOST 1048576: true; the input reads as it did. -/
def positionMovesUptoRow : OpenClaim := { program := "ytdhkflmodcgooaa", sum := "637f282bb7dbde971e673f964bc3e960caae72a6c85eac17e1395ab2c92d53a4", func := "contango/contangolaw15.PositionMoves", spec := "positionMoves", inPlace := ["internal/bytealg.abigen_runtime_cmpstring"], unfollowed := true, recurses := true, plainKeys := false, apart := false, narrowed := true }
def PositionMovesUptoSaid : Prop := positionMovesUptoRow.holds Try.pinned (OpenSpec.upto positionMovesSpec)

/-- 'contangolaw15.PositionKeeps', WHERE WHAT IT READS IS OF BULK AT MOST 1048576: true; the input reads as it did. -/
def positionKeepsUptoRow : OpenClaim := { program := "ytdhkflmodcgooaa", sum := "637f282bb7dbde971e673f964bc3e960caae72a6c85eac17e1395ab2c92d53a4", func := "contango/contangolaw15.PositionKeeps", spec := "positionKeeps", inPlace := ["internal/bytealg.abigen_runtime_cmpstring"], unfollowed := true, recurses := true, plainKeys := false, apart := false, narrowed := true }
def PositionKeepsUptoSaid : Prop := positionKeepsUptoRow.holds Try.pinned (OpenSpec.upto positionKeepsSpec)

end Rows
end Go.Proofs.Ytdhkflmodcgooaa
