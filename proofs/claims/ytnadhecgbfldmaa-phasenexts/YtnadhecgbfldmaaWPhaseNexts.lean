import Derived.Test.YtnadhecgbfldmaaPhaseF
namespace Go.Proofs.Ytnadhecgbfldmaa.phaseNexts
open Go.RowKit
set_option linter.unusedVariables false

set_option maxHeartbeats 1000000 in
theorem walk (a b : Int) (w : World) (ha : -9223372036854775808 ≤ a ∧ a ≤ 9223372036854775807) (hb : -9223372036854775808 ≤ b ∧ b ≤ 9223372036854775807) :
    Calls Try.prog 3 #[.int .i64 a, .int .i64 b] w fun e w' => e = .returned (.bool true) ∧ Below w.heap.size w w' := by
  have C1 := Lib.hid (fun ww => next_any a ww)
  have C2 := Lib.hid (fun ww => rnext_any a ww)
  have C3 := Lib.hid (fun ww => right_any a ww)
  have C4 := Lib.hid (fun ww => rright_any a ww)
  have C5 := Lib.hid (fun ww => ahead_any a b ww)
  have C6 := Lib.hid (fun ww => rahead_any a b ww)
  generalize PM.nextN a = x at *
  generalize PM.nextE a = y at *
  generalize PM.right a = r at *
  generalize PM.ahead a b = h at *
  clear ha hb
  go_enter Try.func3, Try.ntmps3
  go_wp2_with fail
  refine (C1.out _).mono ?_
  rintro e w1 ⟨rfl, rfl⟩
  go_wp2_with fail
  refine (C2.out _).mono ?_
  rintro e w1 ⟨rfl, rfl⟩
  go_wp2_with fail
  refine (C3.out _).mono ?_
  rintro e w1 ⟨rfl, rfl⟩
  go_wp2_with fail
  refine (C4.out _).mono ?_
  rintro e w1 ⟨rfl, rfl⟩
  go_wp2_with fail
  refine (C5.out _).mono ?_
  rintro e w1 ⟨rfl, rfl⟩
  go_wp2_with fail
  refine (C6.out _).mono ?_
  rintro e w1 ⟨rfl, rfl⟩
  go_wp2_with fail
  refine (goes7_any _).mono ?_
  rintro e w2 ⟨rfl, hb⟩
  go_wp2_with fail
  go_ret
  exact ⟨rfl, hb⟩
end Go.Proofs.Ytnadhecgbfldmaa.phaseNexts
