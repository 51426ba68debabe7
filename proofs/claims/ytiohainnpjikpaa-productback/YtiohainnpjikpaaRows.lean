/-
  No cell of these rows narrows 'for every input' (looked for: loops, veiled, ifaces, maps, wideKeys, modest, calm, conditions, laid).
  DERIVED. THE GIVEN ROWS OF THIS SEAT. 5 by the template 'for every input the law returns true; each argument reads behind the call as it read before'; 0 by the template 'total and deterministic' (their statements: YtiohainnpjikpaaTotals.lean).
  GIVEN WITH THE SEED: the statements are not yours to turn. If you find one false, say at which input.
  Laid BY PROGRAM, IN A SANDBOX (cutbox-rows.mjs): the forced cells as the released guide's own fill.sh prints them over the translation 6d6d6b27d4a5d458… (all of the seat's roots in one cut). By AI agents, Wed Nov 11 2026. No macro, syntax, notation, axiom, sorry.
-/
import Derived.Test.YtiohainnpjikpaaChecked
import GoSem.Claim
import GoSem.ClaimJoined
import GoSem.ClaimMapViews
import Derived.JoinedTies
import Derived.KernelRfl
namespace Go.Proofs.Ytiohainnpjikpaa
/- THE CELL 'sum', in the pinned program and in every row, IS THE sha256 OF THE DUMP (.gsa) THAT YtiohainnpjikpaaProg.lean LOADS. Nothing in Lean hashes anything: it is a label: what it is worth is what the hold of that sum in a sandbox is worth. -/
noncomputable def Try.pinned : Pinned := { name := "ytiohainnpjikpaa", sum := "6d6d6b27d4a5d458ae88a117990e8ee485bf3eba2f5475b21b2f6624dd36b710", checked := Try.checked }
namespace Rows
def none {H : Type} : Left H := { results := [], args := [] }

/-- 'contangolaw09.ProductChecks': WHATEVER THE INPUT: true; the input reads as it did. -/
def productChecksSpec : ChangeSpec := { name := "productChecks", fn := fun _ => fun
  | [d1, d2, d3] => { results := [.lit (.bool true)], args := [d1, d2, d3] }
  | _ => none }
def productChecksRow : OpenClaim := { program := "ytiohainnpjikpaa", sum := "6d6d6b27d4a5d458ae88a117990e8ee485bf3eba2f5475b21b2f6624dd36b710", func := "contango/contangolaw09.ProductChecks", spec := "productChecks", unfollowed := true, recurses := true, apart := false }
def ProductChecksSaid : Prop := productChecksRow.holds Try.pinned (OpenSpec.ofChange productChecksSpec)

/-- ITS FALSE NEIGHBOUR: 'it returns false'. Refute it at one input. -/
def productChecksWrong : ChangeSpec := { name := "productChecks", fn := fun _ => fun
  | [d1, d2, d3] => { results := [.lit (.bool false)], args := [d1, d2, d3] }
  | _ => none }
def ProductChecksWrongFalsely : Prop := productChecksRow.holds Try.pinned (OpenSpec.ofChange productChecksWrong)

/-- 'contangolaw09.ProductPrices': WHATEVER THE INPUT: true; the input reads as it did. -/
def productPricesSpec : ChangeSpec := { name := "productPrices", fn := fun _ => fun
  | [d1, d2, d3] => { results := [.lit (.bool true)], args := [d1, d2, d3] }
  | _ => none }
def productPricesRow : OpenClaim := { program := "ytiohainnpjikpaa", sum := "6d6d6b27d4a5d458ae88a117990e8ee485bf3eba2f5475b21b2f6624dd36b710", func := "contango/contangolaw09.ProductPrices", spec := "productPrices", unfollowed := true, recurses := true, apart := false }
def ProductPricesSaid : Prop := productPricesRow.holds Try.pinned (OpenSpec.ofChange productPricesSpec)

/-- ITS FALSE NEIGHBOUR: 'it returns false'. Refute it at one input. -/
def productPricesWrong : ChangeSpec := { name := "productPrices", fn := fun _ => fun
  | [d1, d2, d3] => { results := [.lit (.bool false)], args := [d1, d2, d3] }
  | _ => none }
def ProductPricesWrongFalsely : Prop := productPricesRow.holds Try.pinned (OpenSpec.ofChange productPricesWrong)

/-- 'contangolaw09.ProductTexts': WHATEVER THE INPUT: true; the input reads as it did. -/
def productTextsSpec : ChangeSpec := { name := "productTexts", fn := fun _ => fun
  | [d1, d2] => { results := [.lit (.bool true)], args := [d1, d2] }
  | _ => none }
def productTextsRow : OpenClaim := { program := "ytiohainnpjikpaa", sum := "6d6d6b27d4a5d458ae88a117990e8ee485bf3eba2f5475b21b2f6624dd36b710", func := "contango/contangolaw09.ProductTexts", spec := "productTexts", unfollowed := true, recurses := true, apart := false }
def ProductTextsSaid : Prop := productTextsRow.holds Try.pinned (OpenSpec.ofChange productTextsSpec)

/-- ITS FALSE NEIGHBOUR: 'it returns false'. Refute it at one input. -/
def productTextsWrong : ChangeSpec := { name := "productTexts", fn := fun _ => fun
  | [d1, d2] => { results := [.lit (.bool false)], args := [d1, d2] }
  | _ => none }
def ProductTextsWrongFalsely : Prop := productTextsRow.holds Try.pinned (OpenSpec.ofChange productTextsWrong)

/-- 'contangolaw09.ProductRounds': WHATEVER THE INPUT: true; the input reads as it did. -/
def productRoundsSpec : ChangeSpec := { name := "productRounds", fn := fun _ => fun
  | [d1, d2, d3] => { results := [.lit (.bool true)], args := [d1, d2, d3] }
  | _ => none }
def productRoundsRow : OpenClaim := { program := "ytiohainnpjikpaa", sum := "6d6d6b27d4a5d458ae88a117990e8ee485bf3eba2f5475b21b2f6624dd36b710", func := "contango/contangolaw09.ProductRounds", spec := "productRounds", unfollowed := true, recurses := true, apart := false }
def ProductRoundsSaid : Prop := productRoundsRow.holds Try.pinned (OpenSpec.ofChange productRoundsSpec)

/-- ITS FALSE NEIGHBOUR: 'it returns false'. Refute it at one input. -/
def productRoundsWrong : ChangeSpec := { name := "productRounds", fn := fun _ => fun
  | [d1, d2, d3] => { results := [.lit (.bool false)], args := [d1, d2, d3] }
  | _ => none }
def ProductRoundsWrongFalsely : Prop := productRoundsRow.holds Try.pinned (OpenSpec.ofChange productRoundsWrong)

/-- 'contangolaw09.ProductBack': WHATEVER THE INPUT: true; the input reads as it did. -/
def productBackSpec : ChangeSpec := { name := "productBack", fn := fun _ => fun
  | [d1, d2] => { results := [.lit (.bool true)], args := [d1, d2] }
  | _ => none }
def productBackRow : OpenClaim := { program := "ytiohainnpjikpaa", sum := "6d6d6b27d4a5d458ae88a117990e8ee485bf3eba2f5475b21b2f6624dd36b710", func := "contango/contangolaw09.ProductBack", spec := "productBack", unfollowed := true, recurses := true, apart := false }
def ProductBackSaid : Prop := productBackRow.holds Try.pinned (OpenSpec.ofChange productBackSpec)

/-- ITS FALSE NEIGHBOUR: 'it returns false'. Refute it at one input. -/
def productBackWrong : ChangeSpec := { name := "productBack", fn := fun _ => fun
  | [d1, d2] => { results := [.lit (.bool false)], args := [d1, d2] }
  | _ => none }
def ProductBackWrongFalsely : Prop := productBackRow.holds Try.pinned (OpenSpec.ofChange productBackWrong)

/- THE SECOND FORM. 'bulk': how many values and letters a reading holds, each counted each time it is reached (what is shared counts as often as it is met; a slice's spare places count too). A statement '..UptoSaid' is the law's where the arguments, and the package variables that the reading takes, are together of bulk at most 1048576: NARROWER than '..Said'. Prove '..Said' where nothing that the law and all that it calls make is longer than what came in: it says more and counts as full. Else prove '..UptoSaid'. A law counts once. -/
mutual
def uptoBulk {H : Type} : DataW H → Nat
  | .lit (.string bytes) => bytes.length + 1
  | .lit _ => 1
  | .nil => 1
  | .ptr d => uptoBulk d + 1
  | .slice elems spare => uptoBulkAll elems + uptoBulkAll spare + 1
  | .agg parts => uptoBulkAll parts + 1
  | .iface _ d => uptoBulk d + 1
  | .map entries => uptoBulkEntries entries + 1
  | .held _ => 1
def uptoBulkAll {H : Type} : List (DataW H) → Nat
  | [] => 0
  | d :: r => uptoBulk d + uptoBulkAll r
def uptoBulkEntries {H : Type} : List (Lit × DataW H) → Nat
  | [] => 0
  | x :: r => uptoBulkEntry x + uptoBulkEntries r
def uptoBulkEntry {H : Type} : Lit × DataW H → Nat
  | (.string bytes, d) => bytes.length + uptoBulk d + 1
  | (_, d) => uptoBulk d + 1
 end
def uptoSmall : (H : Type) → List (DataW H) → Bool := fun _ ds => decide (uptoBulkAll ds ≤ 1048576)
def OpenSpec.upto (s : _root_.Go.ChangeSpec) : _root_.Go.OpenSpec := { _root_.Go.OpenSpec.ofChange s with cond := some uptoSmall }

/-- 'contangolaw09.ProductChecks', WHERE WHAT IT READS IS OF BULK AT MOST 1048576: true; the input reads as it did. -/
def productChecksUptoRow : OpenClaim := { program := "ytiohainnpjikpaa", sum := "6d6d6b27d4a5d458ae88a117990e8ee485bf3eba2f5475b21b2f6624dd36b710", func := "contango/contangolaw09.ProductChecks", spec := "productChecks", unfollowed := true, recurses := true, apart := false, narrowed := true }
def ProductChecksUptoSaid : Prop := productChecksUptoRow.holds Try.pinned (OpenSpec.upto productChecksSpec)

/-- 'contangolaw09.ProductPrices', WHERE WHAT IT READS IS OF BULK AT MOST 1048576: true; the input reads as it did. -/
def productPricesUptoRow : OpenClaim := { program := "ytiohainnpjikpaa", sum := "6d6d6b27d4a5d458ae88a117990e8ee485bf3eba2f5475b21b2f6624dd36b710", func := "contango/contangolaw09.ProductPrices", spec := "productPrices", unfollowed := true, recurses := true, apart := false, narrowed := true }
def ProductPricesUptoSaid : Prop := productPricesUptoRow.holds Try.pinned (OpenSpec.upto productPricesSpec)

/-- 'contangolaw09.ProductTexts', WHERE WHAT IT READS IS OF BULK AT MOST 1048576: true; the input reads as it did. -/
def productTextsUptoRow : OpenClaim := { program := "ytiohainnpjikpaa", sum := "6d6d6b27d4a5d458ae88a117990e8ee485bf3eba2f5475b21b2f6624dd36b710", func := "contango/contangolaw09.ProductTexts", spec := "productTexts", unfollowed := true, recurses := true, apart := false, narrowed := true }
def ProductTextsUptoSaid : Prop := productTextsUptoRow.holds Try.pinned (OpenSpec.upto productTextsSpec)

/-- 'contangolaw09.ProductRounds', WHERE WHAT IT READS IS OF BULK AT MOST 1048576: true; the input reads as it did. -/
def productRoundsUptoRow : OpenClaim := { program := "ytiohainnpjikpaa", sum := "6d6d6b27d4a5d458ae88a117990e8ee485bf3eba2f5475b21b2f6624dd36b710", func := "contango/contangolaw09.ProductRounds", spec := "productRounds", unfollowed := true, recurses := true, apart := false, narrowed := true }
def ProductRoundsUptoSaid : Prop := productRoundsUptoRow.holds Try.pinned (OpenSpec.upto productRoundsSpec)

/-- 'contangolaw09.ProductBack', WHERE WHAT IT READS IS OF BULK AT MOST 1048576: true; the input reads as it did. -/
def productBackUptoRow : OpenClaim := { program := "ytiohainnpjikpaa", sum := "6d6d6b27d4a5d458ae88a117990e8ee485bf3eba2f5475b21b2f6624dd36b710", func := "contango/contangolaw09.ProductBack", spec := "productBack", unfollowed := true, recurses := true, apart := false, narrowed := true }
def ProductBackUptoSaid : Prop := productBackUptoRow.holds Try.pinned (OpenSpec.upto productBackSpec)

end Rows
end Go.Proofs.Ytiohainnpjikpaa
