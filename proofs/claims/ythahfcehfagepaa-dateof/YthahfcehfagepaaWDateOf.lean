import Derived.Test.YthahfcehfagepaaDateJ
namespace Go.Proofs.Ythahfcehfagepaa.dateOf
open Go.RowKit
set_option linter.unusedVariables false

set_option maxHeartbeats 1000000 in
theorem walk (y m d : Int) (w : World) (w0 : -9223372036854775808 ≤ y ∧ y ≤ 9223372036854775807) (w1 : -9223372036854775808 ≤ m ∧ m ≤ 9223372036854775807) (w2 : -9223372036854775808 ≤ d ∧ d ≤ 9223372036854775807) :
    Calls Try.prog 3 #[.int .i64 y, .int .i64 m, .int .i64 d] w fun e w' => e = .returned (.bool true) ∧ Below w.heap.size w w' := by
  have H1 := Lib.hid (fun ww => of_any y m d ww); have H2 := Lib.hid (fun ww => rof_any y m d ww)
  have H3 := Lib.hid (fun ww => leap_any y ww); have H4 := Lib.hid (fun ww => rleap_any y ww)
  have H5 := Lib.hid (fun ww => days_any y m ww); have H6 := Lib.hid (fun ww => rdays_any y m ww)
  generalize DM.ofN y m d = rn at *
  generalize DM.ofE y m d = re at *
  generalize DM.leap y = lp at *
  generalize DM.dim y m = dm at *
  go_enter Try.func3, Try.ntmps3
  go_wp2_with fail
  refine (H1.out _).mono ?_
  rintro e w1 ⟨rfl, rfl⟩
  go_wp2_with fail
  refine (H2.out _).mono ?_
  rintro e w1 ⟨rfl, rfl⟩
  go_wp2_with fail
  refine (H3.out _).mono ?_
  rintro e w1 ⟨rfl, rfl⟩
  go_wp2_with fail
  refine (H4.out _).mono ?_
  rintro e w1 ⟨rfl, rfl⟩
  go_wp2_with fail
  refine (H5.out _).mono ?_
  rintro e w1 ⟨rfl, rfl⟩
  go_wp2_with fail
  refine (H6.out _).mono ?_
  rintro e w1 ⟨rfl, rfl⟩
  go_wp2_with fail
  refine (goes5_any _).mono ?_
  rintro e w1 ⟨rfl, b1⟩
  go_wp2
  go_ret
  exact ⟨rfl, b1⟩
end Go.Proofs.Ythahfcehfagepaa.dateOf
