/- A law's arguments: the parts of a division. -/
import Derived.Test.YthippdmfeeopkaaBun12
import Derived.Test.YthippdmfeeopkaaBun6
namespace Go.Proofs.Ythippdmfeeopkaa
open Go.ChangeShapes Go.WideShapes Go.ChangeAt Go.RowKit Go.Recs
set_option linter.unusedVariables false
set_option maxRecDepth 100000
theorem part_leafs : leafs Try.prog 3 113 = some partL := by kernel_rfl
theorem open_partT {H : Type} {enc : TypeId × Value → H} {W : World} {base b0 : Nat} {spare : Nat → Bool} {held : Bool} {r : Reach} {v : Value} {d : DataW H} {p : List MemPlace}
    (hv : Value.okWide Try.prog W r b0 46 v) (h : DataW.Trod enc Try.prog W base spare held 46 v d p) :
    ∃ A cap, ∃ l : List GM.Part, v = .slice A l.length cap ∧ (Parts W A l ∧ l.length ≤ cap) ∧ True := by
  obtain ⟨A, cap, rows, rfl, hR, hk, hc⟩ := open_recs (n := 3) (sz := 3) Try.underlying46 part_leafs (by kernel_rfl) rfl (by omega) hv h
  obtain ⟨l, rfl, hq⟩ := typed (ls := partL) partV _ part_row rows hk
  rw [List.length_map] at hc ⊢
  exact ⟨A, cap, l, rfl, ⟨⟨hR, hq⟩, hc⟩, trivial⟩
end Go.Proofs.Ythippdmfeeopkaa
