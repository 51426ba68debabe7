/-
  No cell of these rows narrows 'for every input' (looked for: loops, veiled, ifaces, maps, wideKeys, modest, calm, conditions, laid).
  DERIVED. THE GIVEN ROWS OF THIS SEAT. 6 by the template 'for every input the law returns true; each argument reads behind the call as it read before'; 0 by the template 'total and deterministic' (their statements: YtagmknahmkniaaaTotals.lean).
  GIVEN WITH THE SEED: the statements are not yours to turn. If you find one false, say at which input.
  Laid BY PROGRAM, IN A SANDBOX (cutbox-rows.mjs): the forced cells as the released guide's own fill.sh prints them over the translation f59c3021b6db0da6… (all of the seat's roots in one cut). By AI agents, Wed Nov 11 2026. No macro, syntax, notation, axiom, sorry.
-/
import Derived.Test.YtagmknahmkniaaaChecked
import GoSem.Claim
import GoSem.ClaimJoined
import GoSem.ClaimMapViews
import Derived.JoinedTies
import Derived.KernelRfl
namespace Go.Proofs.Ytagmknahmkniaaa
/- THE CELL 'sum', in the pinned program and in every row, IS THE sha256 OF THE DUMP (.gsa) THAT YtagmknahmkniaaaProg.lean LOADS. Nothing in Lean hashes anything: it is a label: what it is worth is what the hold of that sum in a sandbox is worth. -/
noncomputable def Try.pinned : Pinned := { name := "ytagmknahmkniaaa", sum := "f59c3021b6db0da6d5f13734a083961439e0433abd42d27bcc45811159eab583", checked := Try.checked }
namespace Rows
def none {H : Type} : Left H := { results := [], args := [] }

/-- 'contangolaw19.CurveAts': WHATEVER THE INPUT: true; the input reads as it did. -/
def curveAtsSpec : ChangeSpec := { name := "curveAts", fn := fun _ => fun
  | [d1, d2, d3] => { results := [.lit (.bool true)], args := [d1, d2, d3] }
  | _ => none }
def curveAtsRow : OpenClaim := { program := "ytagmknahmkniaaa", sum := "f59c3021b6db0da6d5f13734a083961439e0433abd42d27bcc45811159eab583", func := "contango/contangolaw19.CurveAts", spec := "curveAts", unfollowed := true, recurses := true, apart := false }
def CurveAtsSaid : Prop := curveAtsRow.holds Try.pinned (OpenSpec.ofChange curveAtsSpec)

/-- ITS FALSE NEIGHBOUR: 'it returns false'. Refute it at one input. -/
def curveAtsWrong : ChangeSpec := { name := "curveAts", fn := fun _ => fun
  | [d1, d2, d3] => { results := [.lit (.bool false)], args := [d1, d2, d3] }
  | _ => none }
def CurveAtsWrongFalsely : Prop := curveAtsRow.holds Try.pinned (OpenSpec.ofChange curveAtsWrong)

/-- 'contangolaw19.CurveFills': WHATEVER THE INPUT: true; the input reads as it did. -/
def curveFillsSpec : ChangeSpec := { name := "curveFills", fn := fun _ => fun
  | [d1, d2, d3] => { results := [.lit (.bool true)], args := [d1, d2, d3] }
  | _ => none }
def curveFillsRow : OpenClaim := { program := "ytagmknahmkniaaa", sum := "f59c3021b6db0da6d5f13734a083961439e0433abd42d27bcc45811159eab583", func := "contango/contangolaw19.CurveFills", spec := "curveFills", unfollowed := true, recurses := true, apart := false }
def CurveFillsSaid : Prop := curveFillsRow.holds Try.pinned (OpenSpec.ofChange curveFillsSpec)

/-- ITS FALSE NEIGHBOUR: 'it returns false'. Refute it at one input. -/
def curveFillsWrong : ChangeSpec := { name := "curveFills", fn := fun _ => fun
  | [d1, d2, d3] => { results := [.lit (.bool false)], args := [d1, d2, d3] }
  | _ => none }
def CurveFillsWrongFalsely : Prop := curveFillsRow.holds Try.pinned (OpenSpec.ofChange curveFillsWrong)

/-- 'contangolaw19.CurveBetween': WHATEVER THE INPUT: true; the input reads as it did. -/
def curveBetweenSpec : ChangeSpec := { name := "curveBetween", fn := fun _ => fun
  | [d1, d2, d3] => { results := [.lit (.bool true)], args := [d1, d2, d3] }
  | _ => none }
def curveBetweenRow : OpenClaim := { program := "ytagmknahmkniaaa", sum := "f59c3021b6db0da6d5f13734a083961439e0433abd42d27bcc45811159eab583", func := "contango/contangolaw19.CurveBetween", spec := "curveBetween", unfollowed := true, recurses := true, apart := false }
def CurveBetweenSaid : Prop := curveBetweenRow.holds Try.pinned (OpenSpec.ofChange curveBetweenSpec)

/-- ITS FALSE NEIGHBOUR: 'it returns false'. Refute it at one input. -/
def curveBetweenWrong : ChangeSpec := { name := "curveBetween", fn := fun _ => fun
  | [d1, d2, d3] => { results := [.lit (.bool false)], args := [d1, d2, d3] }
  | _ => none }
def CurveBetweenWrongFalsely : Prop := curveBetweenRow.holds Try.pinned (OpenSpec.ofChange curveBetweenWrong)

/-- 'contangolaw19.CurveMoves': WHATEVER THE INPUT: true; the input reads as it did. -/
def curveMovesSpec : ChangeSpec := { name := "curveMoves", fn := fun _ => fun
  | [d1, d2, d3] => { results := [.lit (.bool true)], args := [d1, d2, d3] }
  | _ => none }
def curveMovesRow : OpenClaim := { program := "ytagmknahmkniaaa", sum := "f59c3021b6db0da6d5f13734a083961439e0433abd42d27bcc45811159eab583", func := "contango/contangolaw19.CurveMoves", spec := "curveMoves", unfollowed := true, recurses := true, apart := false }
def CurveMovesSaid : Prop := curveMovesRow.holds Try.pinned (OpenSpec.ofChange curveMovesSpec)

/-- ITS FALSE NEIGHBOUR: 'it returns false'. Refute it at one input. -/
def curveMovesWrong : ChangeSpec := { name := "curveMoves", fn := fun _ => fun
  | [d1, d2, d3] => { results := [.lit (.bool false)], args := [d1, d2, d3] }
  | _ => none }
def CurveMovesWrongFalsely : Prop := curveMovesRow.holds Try.pinned (OpenSpec.ofChange curveMovesWrong)

/-- 'contangolaw19.CurveAgain': WHATEVER THE INPUT: true; the input reads as it did. -/
def curveAgainSpec : ChangeSpec := { name := "curveAgain", fn := fun _ => fun
  | [d1, d2] => { results := [.lit (.bool true)], args := [d1, d2] }
  | _ => none }
def curveAgainRow : OpenClaim := { program := "ytagmknahmkniaaa", sum := "f59c3021b6db0da6d5f13734a083961439e0433abd42d27bcc45811159eab583", func := "contango/contangolaw19.CurveAgain", spec := "curveAgain", unfollowed := true, recurses := true, apart := false }
def CurveAgainSaid : Prop := curveAgainRow.holds Try.pinned (OpenSpec.ofChange curveAgainSpec)

/-- ITS FALSE NEIGHBOUR: 'it returns false'. Refute it at one input. -/
def curveAgainWrong : ChangeSpec := { name := "curveAgain", fn := fun _ => fun
  | [d1, d2] => { results := [.lit (.bool false)], args := [d1, d2] }
  | _ => none }
def CurveAgainWrongFalsely : Prop := curveAgainRow.holds Try.pinned (OpenSpec.ofChange curveAgainWrong)

/-- 'contangolaw20.VaryCarries': WHATEVER THE INPUT: true; the input reads as it did. -/
def varyCarriesSpec : ChangeSpec := { name := "varyCarries", fn := fun _ => fun
  | [d1, d2, d3] => { results := [.lit (.bool true)], args := [d1, d2, d3] }
  | _ => none }
def varyCarriesRow : OpenClaim := { program := "ytagmknahmkniaaa", sum := "f59c3021b6db0da6d5f13734a083961439e0433abd42d27bcc45811159eab583", func := "contango/contangolaw20.VaryCarries", spec := "varyCarries", inPlace := ["internal/bytealg.abigen_runtime_cmpstring", "math/bits.Add64"], unfollowed := true, recurses := true, apart := false }
def VaryCarriesSaid : Prop := varyCarriesRow.holds Try.pinned (OpenSpec.ofChange varyCarriesSpec)

/-- ITS FALSE NEIGHBOUR: 'it returns false'. Refute it at one input. -/
def varyCarriesWrong : ChangeSpec := { name := "varyCarries", fn := fun _ => fun
  | [d1, d2, d3] => { results := [.lit (.bool false)], args := [d1, d2, d3] }
  | _ => none }
def VaryCarriesWrongFalsely : Prop := varyCarriesRow.holds Try.pinned (OpenSpec.ofChange varyCarriesWrong)

/- THE SECOND FORM. 'bulk': how many values and letters a reading holds, each counted each time it is reached (what is shared counts as often as it is met; a slice's spare places count too). A statement '..UptoSaid' is the law's where the arguments, and the package variables that the reading takes, are together of bulk at most 1048576: NARROWER than '..Said'. Prove '..Said' where nothing that the law and all that it calls make is longer than what came in: it says more and counts as full. Else prove '..UptoSaid'. A law counts once. -/
mutual
def uptoBulk {H : Type} : DataW H → Nat
  | .lit (.string bytes) => bytes.length + 1
  | .lit _ => 1
  | .nil => 1
  | .ptr d => uptoBulk d + 1
  | .slice elems spare => uptoBulkAll elems + uptoBulkAll spare + 1
  | .agg parts => uptoBulkAll parts + 1
  | .iface _ d => uptoBulk d + 1
  | .map entries => uptoBulkEntries entries + 1
  | .held _ => 1
def uptoBulkAll {H : Type} : List (DataW H) → Nat
  | [] => 0
  | d :: r => uptoBulk d + uptoBulkAll r
def uptoBulkEntries {H : Type} : List (Lit × DataW H) → Nat
  | [] => 0
  | x :: r => uptoBulkEntry x + uptoBulkEntries r
def uptoBulkEntry {H : Type} : Lit × DataW H → Nat
  | (.string bytes, d) => bytes.length + uptoBulk d + 1
  | (_, d) => uptoBulk d + 1
 end
def uptoSmall : (H : Type) → List (DataW H) → Bool := fun _ ds => decide (uptoBulkAll ds ≤ 1048576)
def OpenSpec.upto (s : _root_.Go.ChangeSpec) : _root_.Go.OpenSpec := { _root_.Go.OpenSpec.ofChange s with cond := some uptoSmall }

/-- 'contangolaw19.CurveAts', WHERE WHAT IT READS IS OF BULK AT MOST 1048576: true; the input reads as it did. -/
def curveAtsUptoRow : OpenClaim := { program := "ytagmknahmkniaaa", sum := "f59c3021b6db0da6d5f13734a083961439e0433abd42d27bcc45811159eab583", func := "contango/contangolaw19.CurveAts", spec := "curveAts", unfollowed := true, recurses := true, apart := false, narrowed := true }
def CurveAtsUptoSaid : Prop := curveAtsUptoRow.holds Try.pinned (OpenSpec.upto curveAtsSpec)

/-- 'contangolaw19.CurveFills', WHERE WHAT IT READS IS OF BULK AT MOST 1048576: true; the input reads as it did. -/
def curveFillsUptoRow : OpenClaim := { program := "ytagmknahmkniaaa", sum := "f59c3021b6db0da6d5f13734a083961439e0433abd42d27bcc45811159eab583", func := "contango/contangolaw19.CurveFills", spec := "curveFills", unfollowed := true, recurses := true, apart := false, narrowed := true }
def CurveFillsUptoSaid : Prop := curveFillsUptoRow.holds Try.pinned (OpenSpec.upto curveFillsSpec)

/-- 'contangolaw19.CurveBetween', WHERE WHAT IT READS IS OF BULK AT MOST 1048576: true; the input reads as it did. -/
def curveBetweenUptoRow : OpenClaim := { program := "ytagmknahmkniaaa", sum := "f59c3021b6db0da6d5f13734a083961439e0433abd42d27bcc45811159eab583", func := "contango/contangolaw19.CurveBetween", spec := "curveBetween", unfollowed := true, recurses := true, apart := false, narrowed := true }
def CurveBetweenUptoSaid : Prop := curveBetweenUptoRow.holds Try.pinned (OpenSpec.upto curveBetweenSpec)

/-- 'contangolaw19.CurveMoves', WHERE WHAT IT READS IS OF BULK AT MOST 1048576: true; the input reads as it did. -/
def curveMovesUptoRow : OpenClaim := { program := "ytagmknahmkniaaa", sum := "f59c3021b6db0da6d5f13734a083961439e0433abd42d27bcc45811159eab583", func := "contango/contangolaw19.CurveMoves", spec := "curveMoves", unfollowed := true, recurses := true, apart := false, narrowed := true }
def CurveMovesUptoSaid : Prop := curveMovesUptoRow.holds Try.pinned (OpenSpec.upto curveMovesSpec)

/-- 'contangolaw19.CurveAgain', WHERE WHAT IT READS IS OF BULK AT MOST 1048576: true; the input reads as it did. -/
def curveAgainUptoRow : OpenClaim := { program := "ytagmknahmkniaaa", sum := "f59c3021b6db0da6d5f13734a083961439e0433abd42d27bcc45811159eab583", func := "contango/contangolaw19.CurveAgain", spec := "curveAgain", unfollowed := true, recurses := true, apart := false, narrowed := true }
def CurveAgainUptoSaid : Prop := curveAgainUptoRow.holds Try.pinned (OpenSpec.upto curveAgainSpec)

/-- 'contangolaw20.VaryCarries', WHERE WHAT IT READS IS OF BULK AT MOST 1048576: true; the input reads as it did. -/
def varyCarriesUptoRow : OpenClaim := { program := "ytagmknahmkniaaa", sum := "f59c3021b6db0da6d5f13734a083961439e0433abd42d27bcc45811159eab583", func := "contango/contangolaw20.VaryCarries", spec := "varyCarries", inPlace := ["internal/bytealg.abigen_runtime_cmpstring", "math/bits.Add64"], unfollowed := true, recurses := true, apart := false, narrowed := true }
def VaryCarriesUptoSaid : Prop := varyCarriesUptoRow.holds Try.pinned (OpenSpec.upto varyCarriesSpec)

end Rows
end Go.Proofs.Ytagmknahmkniaaa
