/-
  No cell of these rows narrows 'for every input' (looked for: loops, veiled, ifaces, maps, wideKeys, modest, calm, conditions, laid).
  DERIVED. THE GIVEN ROWS OF THIS SEAT. 10 by the template 'for every input the law returns true; each argument reads behind the call as it read before'; 0 by the template 'total and deterministic' (their statements: YtnadhecgbfldmaaTotals.lean).
  GIVEN WITH THE SEED: the statements are not yours to turn. If you find one false, say at which input.
  Laid BY PROGRAM, IN A SANDBOX (cutbox-rows.mjs): the forced cells as the released guide's own fill.sh prints them over the translation e3b3e8f21255d005… (all of the seat's roots in one cut). By AI agents, Wed Nov 11 2026. No macro, syntax, notation, axiom, sorry.
-/
import Derived.Test.YtnadhecgbfldmaaChecked
import GoSem.Claim
import GoSem.ClaimJoined
import GoSem.ClaimMapViews
import Derived.JoinedTies
import Derived.KernelRfl
namespace Go.Proofs.Ytnadhecgbfldmaa
/- THE CELL 'sum', in the pinned program and in every row, IS THE sha256 OF THE DUMP (.gsa) THAT YtnadhecgbfldmaaProg.lean LOADS. Nothing in Lean hashes anything: it is a label: what it is worth is what the hold of that sum in a sandbox is worth. -/
noncomputable def Try.pinned : Pinned := { name := "ytnadhecgbfldmaa", sum := "e3b3e8f21255d005b857678f05c3c005deb69153df328ddbb3ccebbcfde8c37e", checked := Try.checked }
namespace Rows
def none {H : Type} : Left H := { results := [], args := [] }

/-- 'contangolaw07.PhaseNexts': WHATEVER THE INPUT: true; the input reads as it did. -/
def phaseNextsSpec : ChangeSpec := { name := "phaseNexts", fn := fun _ => fun
  | [d1, d2] => { results := [.lit (.bool true)], args := [d1, d2] }
  | _ => none }
def phaseNextsRow : OpenClaim := { program := "ytnadhecgbfldmaa", sum := "e3b3e8f21255d005b857678f05c3c005deb69153df328ddbb3ccebbcfde8c37e", func := "contango/contangolaw07.PhaseNexts", spec := "phaseNexts", apart := false }
def PhaseNextsSaid : Prop := phaseNextsRow.holds Try.pinned (OpenSpec.ofChange phaseNextsSpec)

/-- ITS FALSE NEIGHBOUR: 'it returns false'. Refute it at one input. -/
def phaseNextsWrong : ChangeSpec := { name := "phaseNexts", fn := fun _ => fun
  | [d1, d2] => { results := [.lit (.bool false)], args := [d1, d2] }
  | _ => none }
def PhaseNextsWrongFalsely : Prop := phaseNextsRow.holds Try.pinned (OpenSpec.ofChange phaseNextsWrong)

/-- 'contangolaw07.PhaseMays': WHATEVER THE INPUT: true; the input reads as it did. -/
def phaseMaysSpec : ChangeSpec := { name := "phaseMays", fn := fun _ => fun
  | [d1, d2] => { results := [.lit (.bool true)], args := [d1, d2] }
  | _ => none }
def phaseMaysRow : OpenClaim := { program := "ytnadhecgbfldmaa", sum := "e3b3e8f21255d005b857678f05c3c005deb69153df328ddbb3ccebbcfde8c37e", func := "contango/contangolaw07.PhaseMays", spec := "phaseMays", apart := false }
def PhaseMaysSaid : Prop := phaseMaysRow.holds Try.pinned (OpenSpec.ofChange phaseMaysSpec)

/-- ITS FALSE NEIGHBOUR: 'it returns false'. Refute it at one input. -/
def phaseMaysWrong : ChangeSpec := { name := "phaseMays", fn := fun _ => fun
  | [d1, d2] => { results := [.lit (.bool false)], args := [d1, d2] }
  | _ => none }
def PhaseMaysWrongFalsely : Prop := phaseMaysRow.holds Try.pinned (OpenSpec.ofChange phaseMaysWrong)

/-- 'contangolaw07.PhaseNames': WHATEVER THE INPUT: true; the input reads as it did. -/
def phaseNamesSpec : ChangeSpec := { name := "phaseNames", fn := fun _ => fun
  | [d1, d2] => { results := [.lit (.bool true)], args := [d1, d2] }
  | _ => none }
def phaseNamesRow : OpenClaim := { program := "ytnadhecgbfldmaa", sum := "e3b3e8f21255d005b857678f05c3c005deb69153df328ddbb3ccebbcfde8c37e", func := "contango/contangolaw07.PhaseNames", spec := "phaseNames", apart := false }
def PhaseNamesSaid : Prop := phaseNamesRow.holds Try.pinned (OpenSpec.ofChange phaseNamesSpec)

/-- ITS FALSE NEIGHBOUR: 'it returns false'. Refute it at one input. -/
def phaseNamesWrong : ChangeSpec := { name := "phaseNames", fn := fun _ => fun
  | [d1, d2] => { results := [.lit (.bool false)], args := [d1, d2] }
  | _ => none }
def PhaseNamesWrongFalsely : Prop := phaseNamesRow.holds Try.pinned (OpenSpec.ofChange phaseNamesWrong)

/-- 'contangolaw07.PhaseRound': WHATEVER THE INPUT: true; the input reads as it did. -/
def phaseRoundSpec : ChangeSpec := { name := "phaseRound", fn := fun _ => fun
  | [d] => { results := [.lit (.bool true)], args := [d] }
  | _ => none }
def phaseRoundRow : OpenClaim := { program := "ytnadhecgbfldmaa", sum := "e3b3e8f21255d005b857678f05c3c005deb69153df328ddbb3ccebbcfde8c37e", func := "contango/contangolaw07.PhaseRound", spec := "phaseRound", apart := false }
def PhaseRoundSaid : Prop := phaseRoundRow.holds Try.pinned (OpenSpec.ofChange phaseRoundSpec)

/-- ITS FALSE NEIGHBOUR: 'it returns false'. Refute it at one input. -/
def phaseRoundWrong : ChangeSpec := { name := "phaseRound", fn := fun _ => fun
  | [d] => { results := [.lit (.bool false)], args := [d] }
  | _ => none }
def PhaseRoundWrongFalsely : Prop := phaseRoundRow.holds Try.pinned (OpenSpec.ofChange phaseRoundWrong)

/-- 'contangolaw07.PhaseEach': WHATEVER THE INPUT: true; the input reads as it did. -/
def phaseEachSpec : ChangeSpec := { name := "phaseEach", fn := fun _ => fun
  | [d] => { results := [.lit (.bool true)], args := [d] }
  | _ => none }
def phaseEachRow : OpenClaim := { program := "ytnadhecgbfldmaa", sum := "e3b3e8f21255d005b857678f05c3c005deb69153df328ddbb3ccebbcfde8c37e", func := "contango/contangolaw07.PhaseEach", spec := "phaseEach", apart := false }
def PhaseEachSaid : Prop := phaseEachRow.holds Try.pinned (OpenSpec.ofChange phaseEachSpec)

/-- ITS FALSE NEIGHBOUR: 'it returns false'. Refute it at one input. -/
def phaseEachWrong : ChangeSpec := { name := "phaseEach", fn := fun _ => fun
  | [d] => { results := [.lit (.bool false)], args := [d] }
  | _ => none }
def PhaseEachWrongFalsely : Prop := phaseEachRow.holds Try.pinned (OpenSpec.ofChange phaseEachWrong)

/-- 'contangolaw08.RateChecks': WHATEVER THE INPUT: true; the input reads as it did. -/
def rateChecksSpec : ChangeSpec := { name := "rateChecks", fn := fun _ => fun
  | [d1, d2] => { results := [.lit (.bool true)], args := [d1, d2] }
  | _ => none }
def rateChecksRow : OpenClaim := { program := "ytnadhecgbfldmaa", sum := "e3b3e8f21255d005b857678f05c3c005deb69153df328ddbb3ccebbcfde8c37e", func := "contango/contangolaw08.RateChecks", spec := "rateChecks", unfollowed := true, recurses := true, apart := false }
def RateChecksSaid : Prop := rateChecksRow.holds Try.pinned (OpenSpec.ofChange rateChecksSpec)

/-- ITS FALSE NEIGHBOUR: 'it returns false'. Refute it at one input. -/
def rateChecksWrong : ChangeSpec := { name := "rateChecks", fn := fun _ => fun
  | [d1, d2] => { results := [.lit (.bool false)], args := [d1, d2] }
  | _ => none }
def RateChecksWrongFalsely : Prop := rateChecksRow.holds Try.pinned (OpenSpec.ofChange rateChecksWrong)

/-- 'contangolaw08.RateConverts': WHATEVER THE INPUT: true; the input reads as it did. -/
def rateConvertsSpec : ChangeSpec := { name := "rateConverts", fn := fun _ => fun
  | [d1, d2, d3] => { results := [.lit (.bool true)], args := [d1, d2, d3] }
  | _ => none }
def rateConvertsRow : OpenClaim := { program := "ytnadhecgbfldmaa", sum := "e3b3e8f21255d005b857678f05c3c005deb69153df328ddbb3ccebbcfde8c37e", func := "contango/contangolaw08.RateConverts", spec := "rateConverts", unfollowed := true, recurses := true, apart := false }
def RateConvertsSaid : Prop := rateConvertsRow.holds Try.pinned (OpenSpec.ofChange rateConvertsSpec)

/-- ITS FALSE NEIGHBOUR: 'it returns false'. Refute it at one input. -/
def rateConvertsWrong : ChangeSpec := { name := "rateConverts", fn := fun _ => fun
  | [d1, d2, d3] => { results := [.lit (.bool false)], args := [d1, d2, d3] }
  | _ => none }
def RateConvertsWrongFalsely : Prop := rateConvertsRow.holds Try.pinned (OpenSpec.ofChange rateConvertsWrong)

/-- 'contangolaw08.RateTotals': WHATEVER THE INPUT: true; the input reads as it did. -/
def rateTotalsSpec : ChangeSpec := { name := "rateTotals", fn := fun _ => fun
  | [d1, d2, d3] => { results := [.lit (.bool true)], args := [d1, d2, d3] }
  | _ => none }
def rateTotalsRow : OpenClaim := { program := "ytnadhecgbfldmaa", sum := "e3b3e8f21255d005b857678f05c3c005deb69153df328ddbb3ccebbcfde8c37e", func := "contango/contangolaw08.RateTotals", spec := "rateTotals", unfollowed := true, recurses := true, apart := false }
def RateTotalsSaid : Prop := rateTotalsRow.holds Try.pinned (OpenSpec.ofChange rateTotalsSpec)

/-- ITS FALSE NEIGHBOUR: 'it returns false'. Refute it at one input. -/
def rateTotalsWrong : ChangeSpec := { name := "rateTotals", fn := fun _ => fun
  | [d1, d2, d3] => { results := [.lit (.bool false)], args := [d1, d2, d3] }
  | _ => none }
def RateTotalsWrongFalsely : Prop := rateTotalsRow.holds Try.pinned (OpenSpec.ofChange rateTotalsWrong)

/-- 'contangolaw08.RateBack': WHATEVER THE INPUT: true; the input reads as it did. -/
def rateBackSpec : ChangeSpec := { name := "rateBack", fn := fun _ => fun
  | [d1, d2, d3] => { results := [.lit (.bool true)], args := [d1, d2, d3] }
  | _ => none }
def rateBackRow : OpenClaim := { program := "ytnadhecgbfldmaa", sum := "e3b3e8f21255d005b857678f05c3c005deb69153df328ddbb3ccebbcfde8c37e", func := "contango/contangolaw08.RateBack", spec := "rateBack", unfollowed := true, recurses := true, apart := false }
def RateBackSaid : Prop := rateBackRow.holds Try.pinned (OpenSpec.ofChange rateBackSpec)

/-- ITS FALSE NEIGHBOUR: 'it returns false'. Refute it at one input. -/
def rateBackWrong : ChangeSpec := { name := "rateBack", fn := fun _ => fun
  | [d1, d2, d3] => { results := [.lit (.bool false)], args := [d1, d2, d3] }
  | _ => none }
def RateBackWrongFalsely : Prop := rateBackRow.holds Try.pinned (OpenSpec.ofChange rateBackWrong)

/-- 'contangolaw08.RateRises': WHATEVER THE INPUT: true; the input reads as it did. -/
def rateRisesSpec : ChangeSpec := { name := "rateRises", fn := fun _ => fun
  | [d1, d2, d3] => { results := [.lit (.bool true)], args := [d1, d2, d3] }
  | _ => none }
def rateRisesRow : OpenClaim := { program := "ytnadhecgbfldmaa", sum := "e3b3e8f21255d005b857678f05c3c005deb69153df328ddbb3ccebbcfde8c37e", func := "contango/contangolaw08.RateRises", spec := "rateRises", unfollowed := true, recurses := true, apart := false }
def RateRisesSaid : Prop := rateRisesRow.holds Try.pinned (OpenSpec.ofChange rateRisesSpec)

/-- ITS FALSE NEIGHBOUR: 'it returns false'. Refute it at one input. -/
def rateRisesWrong : ChangeSpec := { name := "rateRises", fn := fun _ => fun
  | [d1, d2, d3] => { results := [.lit (.bool false)], args := [d1, d2, d3] }
  | _ => none }
def RateRisesWrongFalsely : Prop := rateRisesRow.holds Try.pinned (OpenSpec.ofChange rateRisesWrong)

/- THE SECOND FORM. 'bulk': how many values and letters a reading holds, each counted each time it is reached (what is shared counts as often as it is met; a slice's spare places count too). A statement '..UptoSaid' is the law's where the arguments, and the package variables that the reading takes, are together of bulk at most 1048576: NARROWER than '..Said'. Prove '..Said' where nothing that the law and all that it calls make is longer than what came in: it says more and counts as full. Else prove '..UptoSaid'. A law counts once. -/
mutual
def uptoBulk {H : Type} : DataW H → Nat
  | .lit (.string bytes) => bytes.length + 1
  | .lit _ => 1
  | .nil => 1
  | .ptr d => uptoBulk d + 1
  | .slice elems spare => uptoBulkAll elems + uptoBulkAll spare + 1
  | .agg parts => uptoBulkAll parts + 1
  | .iface _ d => uptoBulk d + 1
  | .map entries => uptoBulkEntries entries + 1
  | .held _ => 1
def uptoBulkAll {H : Type} : List (DataW H) → Nat
  | [] => 0
  | d :: r => uptoBulk d + uptoBulkAll r
def uptoBulkEntries {H : Type} : List (Lit × DataW H) → Nat
  | [] => 0
  | x :: r => uptoBulkEntry x + uptoBulkEntries r
def uptoBulkEntry {H : Type} : Lit × DataW H → Nat
  | (.string bytes, d) => bytes.length + uptoBulk d + 1
  | (_, d) => uptoBulk d + 1
 end
def uptoSmall : (H : Type) → List (DataW H) → Bool := fun _ ds => decide (uptoBulkAll ds ≤ 1048576)
def OpenSpec.upto (s : _root_.Go.ChangeSpec) : _root_.Go.OpenSpec := { _root_.Go.OpenSpec.ofChange s with cond := some uptoSmall }

/-- 'contangolaw07.PhaseNexts', WHERE WHAT IT READS IS OF BULK AT MOST 1048576: true; the input reads as it did. -/
def phaseNextsUptoRow : OpenClaim := { program := "ytnadhecgbfldmaa", sum := "e3b3e8f21255d005b857678f05c3c005deb69153df328ddbb3ccebbcfde8c37e", func := "contango/contangolaw07.PhaseNexts", spec := "phaseNexts", apart := false, narrowed := true }
def PhaseNextsUptoSaid : Prop := phaseNextsUptoRow.holds Try.pinned (OpenSpec.upto phaseNextsSpec)

/-- 'contangolaw07.PhaseMays', WHERE WHAT IT READS IS OF BULK AT MOST 1048576: true; the input reads as it did. -/
def phaseMaysUptoRow : OpenClaim := { program := "ytnadhecgbfldmaa", sum := "e3b3e8f21255d005b857678f05c3c005deb69153df328ddbb3ccebbcfde8c37e", func := "contango/contangolaw07.PhaseMays", spec := "phaseMays", apart := false, narrowed := true }
def PhaseMaysUptoSaid : Prop := phaseMaysUptoRow.holds Try.pinned (OpenSpec.upto phaseMaysSpec)

/-- 'contangolaw07.PhaseNames', WHERE WHAT IT READS IS OF BULK AT MOST 1048576: true; the input reads as it did. -/
def phaseNamesUptoRow : OpenClaim := { program := "ytnadhecgbfldmaa", sum := "e3b3e8f21255d005b857678f05c3c005deb69153df328ddbb3ccebbcfde8c37e", func := "contango/contangolaw07.PhaseNames", spec := "phaseNames", apart := false, narrowed := true }
def PhaseNamesUptoSaid : Prop := phaseNamesUptoRow.holds Try.pinned (OpenSpec.upto phaseNamesSpec)

/-- 'contangolaw07.PhaseRound', WHERE WHAT IT READS IS OF BULK AT MOST 1048576: true; the input reads as it did. -/
def phaseRoundUptoRow : OpenClaim := { program := "ytnadhecgbfldmaa", sum := "e3b3e8f21255d005b857678f05c3c005deb69153df328ddbb3ccebbcfde8c37e", func := "contango/contangolaw07.PhaseRound", spec := "phaseRound", apart := false, narrowed := true }
def PhaseRoundUptoSaid : Prop := phaseRoundUptoRow.holds Try.pinned (OpenSpec.upto phaseRoundSpec)

/-- 'contangolaw07.PhaseEach', WHERE WHAT IT READS IS OF BULK AT MOST 1048576: true; the input reads as it did. -/
def phaseEachUptoRow : OpenClaim := { program := "ytnadhecgbfldmaa", sum := "e3b3e8f21255d005b857678f05c3c005deb69153df328ddbb3ccebbcfde8c37e", func := "contango/contangolaw07.PhaseEach", spec := "phaseEach", apart := false, narrowed := true }
def PhaseEachUptoSaid : Prop := phaseEachUptoRow.holds Try.pinned (OpenSpec.upto phaseEachSpec)

/-- 'contangolaw08.RateChecks', WHERE WHAT IT READS IS OF BULK AT MOST 1048576: true; the input reads as it did. -/
def rateChecksUptoRow : OpenClaim := { program := "ytnadhecgbfldmaa", sum := "e3b3e8f21255d005b857678f05c3c005deb69153df328ddbb3ccebbcfde8c37e", func := "contango/contangolaw08.RateChecks", spec := "rateChecks", unfollowed := true, recurses := true, apart := false, narrowed := true }
def RateChecksUptoSaid : Prop := rateChecksUptoRow.holds Try.pinned (OpenSpec.upto rateChecksSpec)

/-- 'contangolaw08.RateConverts', WHERE WHAT IT READS IS OF BULK AT MOST 1048576: true; the input reads as it did. -/
def rateConvertsUptoRow : OpenClaim := { program := "ytnadhecgbfldmaa", sum := "e3b3e8f21255d005b857678f05c3c005deb69153df328ddbb3ccebbcfde8c37e", func := "contango/contangolaw08.RateConverts", spec := "rateConverts", unfollowed := true, recurses := true, apart := false, narrowed := true }
def RateConvertsUptoSaid : Prop := rateConvertsUptoRow.holds Try.pinned (OpenSpec.upto rateConvertsSpec)

/-- 'contangolaw08.RateTotals', WHERE WHAT IT READS IS OF BULK AT MOST 1048576: true; the input reads as it did. -/
def rateTotalsUptoRow : OpenClaim := { program := "ytnadhecgbfldmaa", sum := "e3b3e8f21255d005b857678f05c3c005deb69153df328ddbb3ccebbcfde8c37e", func := "contango/contangolaw08.RateTotals", spec := "rateTotals", unfollowed := true, recurses := true, apart := false, narrowed := true }
def RateTotalsUptoSaid : Prop := rateTotalsUptoRow.holds Try.pinned (OpenSpec.upto rateTotalsSpec)

/-- 'contangolaw08.RateBack', WHERE WHAT IT READS IS OF BULK AT MOST 1048576: true; the input reads as it did. -/
def rateBackUptoRow : OpenClaim := { program := "ytnadhecgbfldmaa", sum := "e3b3e8f21255d005b857678f05c3c005deb69153df328ddbb3ccebbcfde8c37e", func := "contango/contangolaw08.RateBack", spec := "rateBack", unfollowed := true, recurses := true, apart := false, narrowed := true }
def RateBackUptoSaid : Prop := rateBackUptoRow.holds Try.pinned (OpenSpec.upto rateBackSpec)

/-- 'contangolaw08.RateRises', WHERE WHAT IT READS IS OF BULK AT MOST 1048576: true; the input reads as it did. -/
def rateRisesUptoRow : OpenClaim := { program := "ytnadhecgbfldmaa", sum := "e3b3e8f21255d005b857678f05c3c005deb69153df328ddbb3ccebbcfde8c37e", func := "contango/contangolaw08.RateRises", spec := "rateRises", unfollowed := true, recurses := true, apart := false, narrowed := true }
def RateRisesUptoSaid : Prop := rateRisesUptoRow.holds Try.pinned (OpenSpec.upto rateRisesSpec)

end Rows
end Go.Proofs.Ytnadhecgbfldmaa
