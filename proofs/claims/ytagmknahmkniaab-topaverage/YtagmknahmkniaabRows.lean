/-
  No cell of these rows narrows 'for every input' (looked for: loops, veiled, ifaces, maps, wideKeys, modest, calm, conditions, laid).
  DERIVED. THE GIVEN ROWS OF THIS SEAT. 5 by the template 'for every input the law returns true; each argument reads behind the call as it read before'; 0 by the template 'total and deterministic' (their statements: YtagmknahmkniaabTotals.lean).
  GIVEN WITH THE SEED: the statements are not yours to turn. If you find one false, say at which input.
  Laid BY PROGRAM, IN A SANDBOX (cutbox-rows.mjs): the forced cells as the released guide's own fill.sh prints them over the translation 58cb47a4f6c40e9e… (all of the seat's roots in one cut). By AI agents, Wed Nov 11 2026. No macro, syntax, notation, axiom, sorry.
-/
import Derived.Test.YtagmknahmkniaabChecked
import GoSem.Claim
import GoSem.ClaimJoined
import GoSem.ClaimMapViews
import Derived.JoinedTies
import Derived.KernelRfl
namespace Go.Proofs.Ytagmknahmkniaab
/- THE CELL 'sum', in the pinned program and in every row, IS THE sha256 OF THE DUMP (.gsa) THAT YtagmknahmkniaabProg.lean LOADS. Nothing in Lean hashes anything: it is a label: what it is worth is what the hold of that sum in a sandbox is worth. -/
noncomputable def Try.pinned : Pinned := { name := "ytagmknahmkniaab", sum := "58cb47a4f6c40e9ed279692a73c8bcf9e77c3e32bbf3c1e7a68c0624dcdbe84d", checked := Try.checked }
namespace Rows
def none {H : Type} : Left H := { results := [], args := [] }

/-- 'contangolaw20.VaryNought': WHATEVER THE INPUT: true; the input reads as it did. -/
def varyNoughtSpec : ChangeSpec := { name := "varyNought", fn := fun _ => fun
  | [d] => { results := [.lit (.bool true)], args := [d] }
  | _ => none }
def varyNoughtRow : OpenClaim := { program := "ytagmknahmkniaab", sum := "58cb47a4f6c40e9ed279692a73c8bcf9e77c3e32bbf3c1e7a68c0624dcdbe84d", func := "contango/contangolaw20.VaryNought", spec := "varyNought", inPlace := ["internal/bytealg.abigen_runtime_cmpstring", "math/bits.Add64"], unfollowed := true, recurses := true, plainKeys := false, apart := false }
def VaryNoughtSaid : Prop := varyNoughtRow.holds Try.pinned (OpenSpec.ofChange varyNoughtSpec)

/-- ITS FALSE NEIGHBOUR: 'it returns false'. Refute it at one input. -/
def varyNoughtWrong : ChangeSpec := { name := "varyNought", fn := fun _ => fun
  | [d] => { results := [.lit (.bool false)], args := [d] }
  | _ => none }
def VaryNoughtWrongFalsely : Prop := varyNoughtRow.holds Try.pinned (OpenSpec.ofChange varyNoughtWrong)

/-- 'contangolaw20.VaryZero': WHATEVER THE INPUT: true; the input reads as it did. -/
def varyZeroSpec : ChangeSpec := { name := "varyZero", fn := fun _ => fun
  | [d1, d2, d3] => { results := [.lit (.bool true)], args := [d1, d2, d3] }
  | _ => none }
def varyZeroRow : OpenClaim := { program := "ytagmknahmkniaab", sum := "58cb47a4f6c40e9ed279692a73c8bcf9e77c3e32bbf3c1e7a68c0624dcdbe84d", func := "contango/contangolaw20.VaryZero", spec := "varyZero", inPlace := ["internal/bytealg.abigen_runtime_cmpstring", "math/bits.Add64"], unfollowed := true, recurses := true, plainKeys := false, apart := false }
def VaryZeroSaid : Prop := varyZeroRow.holds Try.pinned (OpenSpec.ofChange varyZeroSpec)

/-- ITS FALSE NEIGHBOUR: 'it returns false'. Refute it at one input. -/
def varyZeroWrong : ChangeSpec := { name := "varyZero", fn := fun _ => fun
  | [d1, d2, d3] => { results := [.lit (.bool false)], args := [d1, d2, d3] }
  | _ => none }
def VaryZeroWrongFalsely : Prop := varyZeroRow.holds Try.pinned (OpenSpec.ofChange varyZeroWrong)

/-- 'contangolaw20.VaryOrder': WHATEVER THE INPUT: true; the input reads as it did. -/
def varyOrderSpec : ChangeSpec := { name := "varyOrder", fn := fun _ => fun
  | [d] => { results := [.lit (.bool true)], args := [d] }
  | _ => none }
def varyOrderRow : OpenClaim := { program := "ytagmknahmkniaab", sum := "58cb47a4f6c40e9ed279692a73c8bcf9e77c3e32bbf3c1e7a68c0624dcdbe84d", func := "contango/contangolaw20.VaryOrder", spec := "varyOrder", inPlace := ["internal/bytealg.abigen_runtime_cmpstring", "math/bits.Add64"], unfollowed := true, recurses := true, plainKeys := false, apart := false }
def VaryOrderSaid : Prop := varyOrderRow.holds Try.pinned (OpenSpec.ofChange varyOrderSpec)

/-- ITS FALSE NEIGHBOUR: 'it returns false'. Refute it at one input. -/
def varyOrderWrong : ChangeSpec := { name := "varyOrder", fn := fun _ => fun
  | [d] => { results := [.lit (.bool false)], args := [d] }
  | _ => none }
def VaryOrderWrongFalsely : Prop := varyOrderRow.holds Try.pinned (OpenSpec.ofChange varyOrderWrong)

/-- 'contangolaw20.VaryAccount': WHATEVER THE INPUT: true; the input reads as it did. -/
def varyAccountSpec : ChangeSpec := { name := "varyAccount", fn := fun _ => fun
  | [d1, d2] => { results := [.lit (.bool true)], args := [d1, d2] }
  | _ => none }
def varyAccountRow : OpenClaim := { program := "ytagmknahmkniaab", sum := "58cb47a4f6c40e9ed279692a73c8bcf9e77c3e32bbf3c1e7a68c0624dcdbe84d", func := "contango/contangolaw20.VaryAccount", spec := "varyAccount", inPlace := ["internal/bytealg.abigen_runtime_cmpstring", "math/bits.Add64"], unfollowed := true, recurses := true, plainKeys := false, apart := false }
def VaryAccountSaid : Prop := varyAccountRow.holds Try.pinned (OpenSpec.ofChange varyAccountSpec)

/-- ITS FALSE NEIGHBOUR: 'it returns false'. Refute it at one input. -/
def varyAccountWrong : ChangeSpec := { name := "varyAccount", fn := fun _ => fun
  | [d1, d2] => { results := [.lit (.bool false)], args := [d1, d2] }
  | _ => none }
def VaryAccountWrongFalsely : Prop := varyAccountRow.holds Try.pinned (OpenSpec.ofChange varyAccountWrong)

/-- 'contangotop.TopAverage': WHATEVER THE INPUT: true; the input reads as it did. -/
def topAverageSpec : ChangeSpec := { name := "topAverage", fn := fun _ => fun
  | [d1, d2, d3] => { results := [.lit (.bool true)], args := [d1, d2, d3] }
  | _ => none }
def topAverageRow : OpenClaim := { program := "ytagmknahmkniaab", sum := "58cb47a4f6c40e9ed279692a73c8bcf9e77c3e32bbf3c1e7a68c0624dcdbe84d", func := "contango/contangotop.TopAverage", spec := "topAverage", unfollowed := true, recurses := true, plainKeys := false, apart := false }
def TopAverageSaid : Prop := topAverageRow.holds Try.pinned (OpenSpec.ofChange topAverageSpec)

/-- ITS FALSE NEIGHBOUR: 'it returns false'. Refute it at one input. -/
def topAverageWrong : ChangeSpec := { name := "topAverage", fn := fun _ => fun
  | [d1, d2, d3] => { results := [.lit (.bool false)], args := [d1, d2, d3] }
  | _ => none }
def TopAverageWrongFalsely : Prop := topAverageRow.holds Try.pinned (OpenSpec.ofChange topAverageWrong)

/- THE SECOND FORM. 'bulk': how many values and letters a reading holds, each counted each time it is reached (what is shared counts as often as it is met; a slice's spare places count too). A statement '..UptoSaid' is the law's where the arguments, and the package variables that the reading takes, are together of bulk at most 1048576: NARROWER than '..Said'. Prove '..Said' where nothing that the law and all that it calls make is longer than what came in: it says more and counts as full. Else prove '..UptoSaid'. A law counts once. -/
mutual
def uptoBulk {H : Type} : DataW H → Nat
  | .lit (.string bytes) => bytes.length + 1
  | .lit _ => 1
  | .nil => 1
  | .ptr d => uptoBulk d + 1
  | .slice elems spare => uptoBulkAll elems + uptoBulkAll spare + 1
  | .agg parts => uptoBulkAll parts + 1
  | .iface _ d => uptoBulk d + 1
  | .map entries => uptoBulkEntries entries + 1
  | .held _ => 1
def uptoBulkAll {H : Type} : List (DataW H) → Nat
  | [] => 0
  | d :: r => uptoBulk d + uptoBulkAll r
def uptoBulkEntries {H : Type} : List (Lit × DataW H) → Nat
  | [] => 0
  | x :: r => uptoBulkEntry x + uptoBulkEntries r
def uptoBulkEntry {H : Type} : Lit × DataW H → Nat
  | (.string bytes, d) => bytes.length + uptoBulk d + 1
  | (_, d) => uptoBulk d + 1
 end
def uptoSmall : (H : Type) → List (DataW H) → Bool := fun _ ds => decide (uptoBulkAll ds ≤ 1048576)
def OpenSpec.upto (s : _root_.Go.ChangeSpec) : _root_.Go.OpenSpec := { _root_.Go.OpenSpec.ofChange s with cond := some uptoSmall }

/-- 'contangolaw20.VaryNought', WHERE WHAT IT READS IS OF BULK AT MOST 1048576: true; the input reads as it did. -/
def varyNoughtUptoRow : OpenClaim := { program := "ytagmknahmkniaab", sum := "58cb47a4f6c40e9ed279692a73c8bcf9e77c3e32bbf3c1e7a68c0624dcdbe84d", func := "contango/contangolaw20.VaryNought", spec := "varyNought", inPlace := ["internal/bytealg.abigen_runtime_cmpstring", "math/bits.Add64"], unfollowed := true, recurses := true, plainKeys := false, apart := false, narrowed := true }
def VaryNoughtUptoSaid : Prop := varyNoughtUptoRow.holds Try.pinned (OpenSpec.upto varyNoughtSpec)

/-- 'contangolaw20.VaryZero', WHERE WHAT IT READS IS OF BULK AT MOST 1048576: true; the input reads as it did. -/
def varyZeroUptoRow : OpenClaim := { program := "ytagmknahmkniaab", sum := "58cb47a4f6c40e9ed279692a73c8bcf9e77c3e32bbf3c1e7a68c0624dcdbe84d", func := "contango/contangolaw20.VaryZero", spec := "varyZero", inPlace := ["internal/bytealg.abigen_runtime_cmpstring", "math/bits.Add64"], unfollowed := true, recurses := true, plainKeys := false, apart := false, narrowed := true }
def VaryZeroUptoSaid : Prop := varyZeroUptoRow.holds Try.pinned (OpenSpec.upto varyZeroSpec)

/-- 'contangolaw20.VaryOrder', WHERE WHAT IT READS IS OF BULK AT MOST 1048576: true; the input reads as it did. -/
def varyOrderUptoRow : OpenClaim := { program := "ytagmknahmkniaab", sum := "58cb47a4f6c40e9ed279692a73c8bcf9e77c3e32bbf3c1e7a68c0624dcdbe84d", func := "contango/contangolaw20.VaryOrder", spec := "varyOrder", inPlace := ["internal/bytealg.abigen_runtime_cmpstring", "math/bits.Add64"], unfollowed := true, recurses := true, plainKeys := false, apart := false, narrowed := true }
def VaryOrderUptoSaid : Prop := varyOrderUptoRow.holds Try.pinned (OpenSpec.upto varyOrderSpec)

/-- 'contangolaw20.VaryAccount', WHERE WHAT IT READS IS OF BULK AT MOST 1048576: true; the input reads as it did. -/
def varyAccountUptoRow : OpenClaim := { program := "ytagmknahmkniaab", sum := "58cb47a4f6c40e9ed279692a73c8bcf9e77c3e32bbf3c1e7a68c0624dcdbe84d", func := "contango/contangolaw20.VaryAccount", spec := "varyAccount", inPlace := ["internal/bytealg.abigen_runtime_cmpstring", "math/bits.Add64"], unfollowed := true, recurses := true, plainKeys := false, apart := false, narrowed := true }
def VaryAccountUptoSaid : Prop := varyAccountUptoRow.holds Try.pinned (OpenSpec.upto varyAccountSpec)

/-- 'contangotop.TopAverage', WHERE WHAT IT READS IS OF BULK AT MOST 1048576: true; the input reads as it did. -/
def topAverageUptoRow : OpenClaim := { program := "ytagmknahmkniaab", sum := "58cb47a4f6c40e9ed279692a73c8bcf9e77c3e32bbf3c1e7a68c0624dcdbe84d", func := "contango/contangotop.TopAverage", spec := "topAverage", unfollowed := true, recurses := true, plainKeys := false, apart := false, narrowed := true }
def TopAverageUptoSaid : Prop := topAverageUptoRow.holds Try.pinned (OpenSpec.upto topAverageSpec)

end Rows
end Go.Proofs.Ytagmknahmkniaab
