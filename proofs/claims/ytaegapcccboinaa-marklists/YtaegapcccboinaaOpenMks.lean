/- A law's arguments: marks. -/
import Derived.Test.YtaegapcccboinaaBun13
import Derived.Test.YtaegapcccboinaaBun3
import Derived.Test.YtaegapcccboinaaBun17
namespace Go.Proofs.Ytaegapcccboinaa
open Go.ChangeShapes Go.WideShapes Go.ChangeAt Go.RowKit Go.Recs
set_option linter.unusedVariables false
set_option maxRecDepth 100000
theorem mark_leafs : leafs Try.prog 3 59 = some markL := by kernel_rfl
theorem open_markT {H : Type} {enc : TypeId × Value → H} {W : World} {base b0 : Nat} {spare : Nat → Bool} {held : Bool} {r : Reach} {v : Value} {d : DataW H} {p : List MemPlace}
    (hv : Value.okWide Try.prog W r b0 55 v) (h : DataW.Trod enc Try.prog W base spare held 55 v d p) :
    ∃ A cap, ∃ l : List MR.Mk, v = .slice A l.length cap ∧ (Marks W A l ∧ l.length ≤ cap) ∧ True := by
  obtain ⟨A, cap, rows, rfl, hR, hk, hc⟩ := open_recs (n := 3) (sz := 5) Try.underlying55 mark_leafs (by kernel_rfl) rfl (by omega) hv h
  obtain ⟨l, rfl, hq⟩ := typed (ls := markL) markV _ mark_row rows hk
  rw [List.length_map] at hc ⊢
  exact ⟨A, cap, l, rfl, ⟨⟨hR, hq⟩, hc⟩, trivial⟩
theorem open_markV {H : Type} {enc : TypeId × Value → H} {W : World} {base b0 : Nat} {spare : Nat → Bool} {held : Bool} {r : Reach} {v : Value} {d : DataW H} {p : List MemPlace}
    (hv : Value.okWide Try.prog W r b0 59 v) (h : DataW.Trod enc Try.prog W base spare held 59 v d p) :
    ∃ x : MR.Mk, v = .agg #[.string x.ser.prod, .int .i64 x.ser.kind, .int .i64 x.ser.expiry, .int .i64 x.ser.strike, .int .i64 x.price] ∧ markQ x := by
  obtain ⟨cs, rfl, hk⟩ := open_rec (n := 3) Try.underlying59 mark_leafs (by kernel_rfl) hv h
  obtain ⟨x, rfl, hq⟩ := mark_row cs hk
  exact ⟨x, rfl, hq⟩
end Go.Proofs.Ytaegapcccboinaa
