import Derived.Test.YtegipokbbmnahaaWordsN
import Derived.Test.YtegipokbbmnahaaOpen
namespace Go.Proofs.Ytegipokbbmnahaa.wordsWrites
open Go.RowKit
set_option linter.unusedVariables false

set_option maxHeartbeats 1000000 in
theorem walk (n : Int) (w : World) (hn : -9223372036854775808 ≤ n ∧ n ≤ 9223372036854775807) :
    Calls Try.prog 4 #[.int .i64 n] w fun e w' => e = .returned (.bool true) ∧ Below w.heap.size w w' := by
  obtain ⟨h1, h2⟩ := hn
  have CT := fun ww => text_any n ww h1 h2
  have CRT := fun ww => rTextTop_any n ww h1 h2
  have CM := fun ww => money_any n ww h1 h2
  have CRM := fun ww => rMoneyTop_any n ww h1 h2
  generalize S (WM.textL n) = ts at *
  generalize S (WM.moneyL n) = ms at *
  have HCT := Lib.hid CT; have HCRT := Lib.hid CRT; have HCM := Lib.hid CM; have HCRM := Lib.hid CRM
  clear CT CRT CM CRM
  go_enter Try.func4, Try.ntmps4
  go_wp2_with fail
  refine (HCT.out _).mono ?_
  rintro e w1 ⟨rfl, b1⟩
  have HB1 := Lib.hid b1
  clear b1
  go_wp2_with fail
  refine (HCRT.out _).mono ?_
  rintro e w2 ⟨rfl, b2⟩
  have HB2 := Lib.hid (HB1.out.trans (b2.mono HB1.out.size))
  clear b2 HB1
  go_wp2_with fail
  refine (HCM.out _).mono ?_
  rintro e w3 ⟨rfl, b3⟩
  have HB3 := Lib.hid (HB2.out.trans (b3.mono HB2.out.size))
  clear b3 HB2
  go_wp2_with fail
  refine (HCRM.out _).mono ?_
  rintro e w4 ⟨rfl, b4⟩
  have HB4 := Lib.hid (HB3.out.trans (b4.mono HB3.out.size))
  clear b4 HB3
  go_wp2_with fail
  refine (goes3_any _).mono ?_
  rintro e w5 ⟨rfl, b5⟩
  have HB5 := Lib.hid (HB4.out.trans (b5.mono HB4.out.size))
  clear b5 HB4
  go_wp2_with fail
  go_ret
  exact ⟨rfl, HB5.out⟩
end Go.Proofs.Ytegipokbbmnahaa.wordsWrites
