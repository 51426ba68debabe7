/- A law's arguments: points. -/
import Derived.Test.YtagmknahmkniaaaBun5
import Derived.Test.YtagmknahmkniaaaBun9
namespace Go.Proofs.Ytagmknahmkniaaa
open Go.ChangeShapes Go.WideShapes Go.ChangeAt Go.RowKit Go.Recs
set_option linter.unusedVariables false
set_option maxRecDepth 100000
theorem pt_leafs : leafs Try.prog 2 44 = some ptL := by kernel_rfl
theorem open_ptT {H : Type} {enc : TypeId × Value → H} {W : World} {base b0 : Nat} {spare : Nat → Bool} {held : Bool} {r : Reach} {v : Value} {d : DataW H} {p : List MemPlace}
    (hv : Value.okWide Try.prog W r b0 22 v) (h : DataW.Trod enc Try.prog W base spare held 22 v d p) :
    ∃ A cap, ∃ l : List UM.Pt, v = .slice A l.length cap ∧ (Pts W A l ∧ l.length ≤ cap) ∧ True := by
  obtain ⟨A, cap, rows, rfl, hR, hk, hc⟩ := open_recs (n := 2) (sz := 3) Try.underlying22 pt_leafs (by kernel_rfl) rfl (by omega) hv h
  obtain ⟨l, rfl, hq⟩ := typed (ls := ptL) ptV _ pt_row rows hk
  rw [List.length_map] at hc ⊢
  exact ⟨A, cap, l, rfl, ⟨⟨hR, hq⟩, hc⟩, trivial⟩
end Go.Proofs.Ytagmknahmkniaaa
