/- A law's argument: a slice of rates. -/
import Derived.Test.YtnadhecgbfldmaaRateA
import Derived.Test.YtnadhecgbfldmaaOpenArr
namespace Go.Proofs.Ytnadhecgbfldmaa
open Go.ChangeShapes Go.WideShapes Go.ChangeAt Go.RowKit Go.Recs
set_option linter.unusedVariables false

theorem rate_leafs : leafs Try.prog 2 59 = some [.str, .int .i64] := by kernel_rfl
theorem rate_row (r : List Value) (hr : okAll [.str, .int .i64] r) : ∃ a : RM.Rate, r = rateV a ∧ (a.1.size ≤ maxLen ∧ -9223372036854775808 ≤ a.2 ∧ a.2 ≤ 9223372036854775807) := by
  cases r with
  | nil => exact hr.elim
  | cons c0 r =>
    cases r with
    | nil => exact hr.2.elim
    | cons c1 r =>
      cases r with
      | nil =>
        obtain ⟨⟨s, e0, hs⟩, ⟨m, e1, hm⟩, _⟩ := hr
        subst e0 e1
        exact ⟨(s, m), rfl, hs, bounds_i64 hm⟩
      | cons c2 r => exact hr.2.2.elim
theorem open_rateT {H : Type} {enc : TypeId × Value → H} {W : World} {base b0 : Nat} {spare : Nat → Bool} {held : Bool} {r : Reach} {v : Value} {d : DataW H} {p : List MemPlace}
    (hv : Value.okWide Try.prog W r b0 37 v) (h : DataW.Trod enc Try.prog W base spare held 37 v d p) :
    ∃ A cap, ∃ l : List RM.Rate, v = .slice A l.length cap ∧ (Rates W A l ∧ l.length ≤ cap) ∧ True := by
  obtain ⟨A, cap, rows, rfl, hR, hk, hc⟩ := open_recs (n := 2) (sz := 2) Try.underlying37 rate_leafs (by kernel_rfl) rfl (by omega) hv h
  obtain ⟨l, rfl, hq⟩ := typed (ls := [.str, .int .i64]) rateV _ rate_row rows hk
  rw [List.length_map] at hc ⊢
  exact ⟨A, cap, l, rfl, ⟨⟨hR, hq⟩, hc⟩, trivial⟩
end Go.Proofs.Ytnadhecgbfldmaa
