/- Contract of layer 7's examples. -/
import Derived.Test.YtnadhecgbfldmaaPhaseE
import Derived.Test.YtnadhecgbfldmaaPhaseC
namespace Go.Proofs.Ytnadhecgbfldmaa
open Go.RowKit
set_option linter.unusedVariables false

theorem pof_cut (w : World) : Calls Try.prog 25 #[.string ⟨#[99, 117, 116]⟩] w fun e w' => e = .returned (.tuple #[.int .i64 2, .bool true]) ∧ w = w' := by
  refine (pof_any _ w).mono ?_
  rintro e w' ⟨rfl, rfl⟩
  have := @PM.of_name 2 (by omega) (by omega)
  rw [show PM.nameS 2 = ⟨#[99, 117, 116]⟩ from rfl] at this
  rw [this.1, this.2]
  exact ⟨rfl, rfl⟩
theorem pnext_five (w : World) : Calls Try.prog 13 #[.int .i64 5] w fun e w' => e = .returned (.tuple #[.int .i64 6, .int .i64 0]) ∧ w = w' := next_any 5 w
theorem pahead_two (w : World) : Calls Try.prog 17 #[.int .i64 2, .int .i64 3] w fun e w' => e = .returned (.bool true) ∧ w = w' := ahead_any 2 3 w

set_option maxHeartbeats 1000000 in
theorem goes7_any (w : World) : Calls Try.prog 19 #[] w fun e w' => e = .returned (.bool true) ∧ Below w.heap.size w w' := by
  go_enter Try.func19, Try.ntmps19
  go_wp2_with fail
  refine (pnext_five _).mono ?_
  rintro e w1 ⟨rfl, rfl⟩
  go_wp2_with fail
  refine (pof_cut _).mono ?_
  rintro e w2 ⟨rfl, rfl⟩
  go_wp2_with fail
  refine (pacts_any 5 _).mono ?_
  rintro e w3 ⟨v, rfl, hown, hb⟩
  obtain ⟨A, cap, rfl, hI⟩ := hown.ints (acts_in 5)
  have HB := Lib.hid hb
  have HO := Lib.hid hown
  clear hb hown
  have HI1 := Lib.hid (hI.below ((Below.refl w3.heap.size w3).alloc (Nat.le_refl _) (.cells #[.int .i64 7, .int .i64 8, .int .i64 10] 3)))
  have HI2 := Lib.hid (ints_lit [7, 8, 10] w3 (by decide) (by simp))
  have HB2 := Lib.hid (HB.out.alloc HB.out.size (.cells #[.int .i64 7, .int .i64 8, .int .i64 10] 3))
  clear hI
  go_wp2_with fail
  refine (same_any _ _ _ [7, 8, 10] _ _ _ HI1.out HI2.out).mono ?_
  rintro e w4 ⟨rfl, n, hw4⟩
  rw [show (PM.acts 5 == [7, 8, 10]) = true from by decide]
  have HB4 : Hid (Below w.heap.size w w4) := Lib.hid (by rw [hw4]; exact below_drewN HB2.out n)
  clear hw4
  go_wp2_with fail
  refine (pahead_two _).mono ?_
  rintro e w5 ⟨rfl, rfl⟩
  go_wp2_with fail
  go_ret
  exact ⟨rfl, HB4.out⟩
end Go.Proofs.Ytnadhecgbfldmaa
