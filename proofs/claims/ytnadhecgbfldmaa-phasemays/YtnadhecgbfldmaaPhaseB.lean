/- Contracts of layer 7: acts and names. -/
import Derived.Test.YtnadhecgbfldmaaPhaseA
import Derived.Test.YtnadhecgbfldmaaVals
namespace Go.Proofs.Ytnadhecgbfldmaa
open Go.RowKit
set_option linter.unusedVariables false

theorem allowed_is {p v : Int} (h : PM.allow p = v) (w : World) :
    Calls Try.prog 43 #[.int .i64 p] w fun e w' => e = .returned (.int .i64 v) ∧ w = w' := by
  subst h; exact allowed_any p w

set_option maxHeartbeats 4000000 in
theorem pmay_any (p a : Int) (w : World) :
    Calls Try.prog 23 #[.int .i64 p, .int .i64 a] w fun e w' => e = .returned (.bool (PM.may p a)) ∧ w = w' := by
  by_cases h1 : 1 ≤ a
  · by_cases h2 : a ≤ 10
    · rcases PM.seven p with rfl | rfl | rfl | rfl | rfl | rfl | hp
      case inr.inr.inr.inr.inr.inr =>
        rw [PM.may_out hp]
        have HC := Lib.hid (allowed_is (PM.allow_no hp))
        rcases PM.ten h1 h2 with rfl | rfl | rfl | rfl | rfl | rfl | rfl | rfl | rfl | rfl
        all_goals
          clear hp h1 h2
          go_enter Try.func23, Try.ntmps23
          go_wp2_with (go_at_call 43; refine (HC.out _).mono ?_; rintro e w' ⟨rfl, rfl⟩)
          go_ret
          exact ⟨rfl, rfl⟩
      all_goals
        rcases PM.ten h1 h2 with rfl | rfl | rfl | rfl | rfl | rfl | rfl | rfl | rfl | rfl
        all_goals
          clear h1 h2
          go_enter Try.func23, Try.ntmps23
          go_wp2_with (go_at_call 43; refine (allowed_is (v := _) rfl _).mono ?_; rintro e w' ⟨rfl, rfl⟩)
          go_ret
          exact ⟨rfl, rfl⟩
    · rw [PM.may_no (by omega)]
      go_enter Try.func23, Try.ntmps23
      go_wp2_with fail
      go_ret
      exact ⟨rfl, rfl⟩
  · rw [PM.may_no (by omega)]
    go_enter Try.func23, Try.ntmps23
    go_wp2_with fail
    go_ret
    exact ⟨rfl, rfl⟩
end Go.Proofs.Ytnadhecgbfldmaa
