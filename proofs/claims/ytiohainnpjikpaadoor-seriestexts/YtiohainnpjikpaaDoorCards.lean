/-
  DERIVED. GIVEN WITH THE SEED: THE CARDS: each row of YtiohainnpjikpaaDoorRows.lean that lists a variable, with what it lists TIED to the program's text (the seventh form; the later family's looks); each row that meets fmt, with fmt's text TOLD by the authors' own Lean function (tested against real Go, not proved from fmt's source: count such statements apart). THE CARD IS WHAT COUNTS. Prove the row's statement (the work); the ties are given (YtiohainnpjikpaaDoorTie.lean); close each card by the builder's one call (the guide's Derived/Test/ToyasCard.lean, 'card_holds'). Laid BY PROGRAM, IN A SANDBOX (cutbox-door.mjs). By AI agents, Wed Nov 11 2026. No macro, syntax, notation, axiom, sorry.
-/
import Derived.Test.YtiohainnpjikpaaDoorRows
import GoSem.ClaimSeven
namespace Go.Proofs.YtiohainnpjikpaaDoor
namespace Rows

/-- THE TIED CARD OF 'contangolaw10.SeriesChecks'. -/
def seriesChecksCard : Claim7 := { stood := { row := seriesChecksRow, standIns := [], harness := (true, "610f4120c33cb21c07045e2f607e7e496ebefe64a855ddc32f8dd7819f2ecb78"), looks := false }, kinds := [], alts := [], laidByText := true, laidKinds := [.data, .pinned], laidTests := true, laidLooks := .later }
def SeriesChecksCardSaid : Prop := Claim7.holds Tryd.pinned (.plain (OpenSpec.ofChange seriesChecksSpec)) seriesChecksCard

/-- THE TIED CARD OF 'contangolaw10.SeriesTexts'. -/
def seriesTextsCard : Claim7 := { stood := { row := seriesTextsRow, standIns := [], harness := (true, "610f4120c33cb21c07045e2f607e7e496ebefe64a855ddc32f8dd7819f2ecb78"), looks := false }, kinds := [], alts := [], laidByText := true, laidKinds := [.data, .pinned], laidTests := true, laidLooks := .later }
def SeriesTextsCardSaid : Prop := Claim7.holds Tryd.pinned (.plain (OpenSpec.ofChange seriesTextsSpec)) seriesTextsCard

/-- THE TIED CARD OF 'contangolaw10.SeriesBack'. -/
def seriesBackCard : Claim7 := { stood := { row := seriesBackRow, standIns := [], harness := (true, "610f4120c33cb21c07045e2f607e7e496ebefe64a855ddc32f8dd7819f2ecb78"), looks := false }, kinds := [], alts := [], laidByText := true, laidKinds := [.data, .pinned], laidTests := true, laidLooks := .later }
def SeriesBackCardSaid : Prop := Claim7.holds Tryd.pinned (.plain (OpenSpec.ofChange seriesBackSpec)) seriesBackCard

/-- THE TIED CARD OF 'contangolaw10.SeriesOrder'. -/
def seriesOrderCard : Claim7 := { stood := { row := seriesOrderRow, standIns := [], harness := (true, "610f4120c33cb21c07045e2f607e7e496ebefe64a855ddc32f8dd7819f2ecb78"), looks := false }, kinds := [], alts := [], laidByText := true, laidKinds := [.data, .pinned], laidTests := true, laidLooks := .later }
def SeriesOrderCardSaid : Prop := Claim7.holds Tryd.pinned (.plain (OpenSpec.ofChange seriesOrderSpec)) seriesOrderCard

/-- THE TIED CARD OF 'contangolaw10.SeriesOnce'. -/
def seriesOnceCard : Claim7 := { stood := { row := seriesOnceRow, standIns := [], harness := (true, "610f4120c33cb21c07045e2f607e7e496ebefe64a855ddc32f8dd7819f2ecb78"), looks := false }, kinds := [], alts := [], laidByText := true, laidKinds := [.data, .pinned], laidTests := true, laidLooks := .later }
def SeriesOnceCardSaid : Prop := Claim7.holds Tryd.pinned (.plain (OpenSpec.ofChange seriesOnceSpec)) seriesOnceCard

/-- THE SECOND FORM's CARD OF 'contangolaw10.SeriesChecks'. -/
def seriesChecksUptoCard : Claim7 := { stood := { row := seriesChecksUptoRow, standIns := [], harness := (true, "610f4120c33cb21c07045e2f607e7e496ebefe64a855ddc32f8dd7819f2ecb78"), looks := false }, kinds := [], alts := [], laidByText := true, laidKinds := [.data, .pinned], laidTests := true, laidLooks := .later }
def SeriesChecksUptoCardSaid : Prop := Claim7.holds Tryd.pinned (.plain (OpenSpec.upto seriesChecksSpec)) seriesChecksUptoCard

/-- THE SECOND FORM's CARD OF 'contangolaw10.SeriesTexts'. -/
def seriesTextsUptoCard : Claim7 := { stood := { row := seriesTextsUptoRow, standIns := [], harness := (true, "610f4120c33cb21c07045e2f607e7e496ebefe64a855ddc32f8dd7819f2ecb78"), looks := false }, kinds := [], alts := [], laidByText := true, laidKinds := [.data, .pinned], laidTests := true, laidLooks := .later }
def SeriesTextsUptoCardSaid : Prop := Claim7.holds Tryd.pinned (.plain (OpenSpec.upto seriesTextsSpec)) seriesTextsUptoCard

/-- THE SECOND FORM's CARD OF 'contangolaw10.SeriesBack'. -/
def seriesBackUptoCard : Claim7 := { stood := { row := seriesBackUptoRow, standIns := [], harness := (true, "610f4120c33cb21c07045e2f607e7e496ebefe64a855ddc32f8dd7819f2ecb78"), looks := false }, kinds := [], alts := [], laidByText := true, laidKinds := [.data, .pinned], laidTests := true, laidLooks := .later }
def SeriesBackUptoCardSaid : Prop := Claim7.holds Tryd.pinned (.plain (OpenSpec.upto seriesBackSpec)) seriesBackUptoCard

/-- THE SECOND FORM's CARD OF 'contangolaw10.SeriesOrder'. -/
def seriesOrderUptoCard : Claim7 := { stood := { row := seriesOrderUptoRow, standIns := [], harness := (true, "610f4120c33cb21c07045e2f607e7e496ebefe64a855ddc32f8dd7819f2ecb78"), looks := false }, kinds := [], alts := [], laidByText := true, laidKinds := [.data, .pinned], laidTests := true, laidLooks := .later }
def SeriesOrderUptoCardSaid : Prop := Claim7.holds Tryd.pinned (.plain (OpenSpec.upto seriesOrderSpec)) seriesOrderUptoCard

/-- THE SECOND FORM's CARD OF 'contangolaw10.SeriesOnce'. -/
def seriesOnceUptoCard : Claim7 := { stood := { row := seriesOnceUptoRow, standIns := [], harness := (true, "610f4120c33cb21c07045e2f607e7e496ebefe64a855ddc32f8dd7819f2ecb78"), looks := false }, kinds := [], alts := [], laidByText := true, laidKinds := [.data, .pinned], laidTests := true, laidLooks := .later }
def SeriesOnceUptoCardSaid : Prop := Claim7.holds Tryd.pinned (.plain (OpenSpec.upto seriesOnceSpec)) seriesOnceUptoCard
end Rows
end Go.Proofs.YtiohainnpjikpaaDoor
