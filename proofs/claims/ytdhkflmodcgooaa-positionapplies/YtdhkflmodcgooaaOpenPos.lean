/- A law's arguments: positions, legs with what they close. -/
import Derived.Test.YtdhkflmodcgooaaBun15
import Derived.Test.YtdhkflmodcgooaaBun3
import Derived.ProofKit
import Derived.OpenShut
import Derived.ShutString
import Derived.ChangeOld
namespace Go.Proofs.Ytdhkflmodcgooaa
open Go.ChangeShapes Go.WideShapes Go.ChangeAt Go.RowKit Go.Recs
set_option linter.unusedVariables false
set_option maxRecDepth 100000
theorem pos_leafs : leafs Try.prog 3 46 = some posL := by kernel_rfl
theorem do_leafs : leafs Try.prog 4 62 = some doL := by kernel_rfl
theorem open_posT {H : Type} {enc : TypeId × Value → H} {W : World} {base b0 : Nat} {spare : Nat → Bool} {held : Bool} {r : Reach} {v : Value} {d : DataW H} {p : List MemPlace}
    (hv : Value.okWide Try.prog W r b0 42 v) (h : DataW.Trod enc Try.prog W base spare held 42 v d p) :
    ∃ A cap, ∃ l : List PO.Pos, v = .slice A l.length cap ∧ (Poss W A l ∧ l.length ≤ cap) ∧ True := by
  obtain ⟨A, cap, rows, rfl, hR, hk, hc⟩ := open_recs (n := 3) (sz := 6) Try.underlying42 pos_leafs (by kernel_rfl) rfl (by omega) hv h
  obtain ⟨l, rfl, hq⟩ := typed (ls := posL) posV _ pos_row rows hk
  rw [List.length_map] at hc ⊢
  exact ⟨A, cap, l, rfl, ⟨⟨hR, hq⟩, hc⟩, trivial⟩
theorem open_doT {H : Type} {enc : TypeId × Value → H} {W : World} {base b0 : Nat} {spare : Nat → Bool} {held : Bool} {r : Reach} {v : Value} {d : DataW H} {p : List MemPlace}
    (hv : Value.okWide Try.prog W r b0 56 v) (h : DataW.Trod enc Try.prog W base spare held 56 v d p) :
    ∃ A cap, ∃ l : List PO.Dor, v = .slice A l.length cap ∧ (Dos W A l ∧ l.length ≤ cap) ∧ True := by
  obtain ⟨A, cap, rows, rfl, hR, hk, hc⟩ := open_recs (n := 4) (sz := 10) Try.underlying56 do_leafs (by kernel_rfl) rfl (by omega) hv h
  obtain ⟨l, rfl, hq⟩ := typed (ls := doL) doV _ do_row rows hk
  rw [List.length_map] at hc ⊢
  exact ⟨A, cap, l, rfl, ⟨⟨hR, hq⟩, hc⟩, trivial⟩
end Go.Proofs.Ytdhkflmodcgooaa
