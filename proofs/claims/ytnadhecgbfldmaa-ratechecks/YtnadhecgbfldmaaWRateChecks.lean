import Derived.Test.YtnadhecgbfldmaaRateI
namespace Go.Proofs.Ytnadhecgbfldmaa.rateChecks
open Go.RowKit Go.Recs
set_option linter.unusedVariables false

set_option maxHeartbeats 1000000 in
theorem walk (A : Option Addr) (cap : Nat) (l : List RM.Rate) (s : ByteArray) (w : World) (hI : Rates w A l ∧ l.length ≤ cap) (hs : s.size ≤ maxLen) :
    Calls Try.prog 8 #[.slice A l.length cap, .string s] w fun e w' => e = .returned (.bool true) ∧ Below w.heap.size w w' := by
  obtain ⟨hI, hcap⟩ := hI
  have C1 := Lib.hid (fun ww h => find_any A l l.length cap rfl s ww h)
  have C2 := Lib.hid (fun ww h => rfind_any A l cap s ww h)
  have C3 := Lib.hid (fun ww h => rtcheck_any A l cap ww h hcap)
  have C4 := Lib.hid (fun ww h => rcheck_any A l cap ww h)
  have HI := Lib.hid hI
  generalize RM.fN l s = x at *
  generalize RM.fB l s = y at *
  generalize RM.checkE l = z at *
  clear hI hs
  go_enter Try.func8, Try.ntmps8
  go_wp2_with fail
  refine (C1.out _ HI.out).mono ?_
  rintro e w1 ⟨rfl, b1⟩
  have HI1 := Lib.hid (HI.out.below b1)
  have HB1 := Lib.hid b1
  clear b1
  go_wp2_with fail
  refine (C2.out _ HI1.out).mono ?_
  rintro e w2 ⟨rfl, rfl⟩
  go_wp2_with fail
  refine (C3.out _ HI1.out).mono ?_
  rintro e w2 ⟨rfl, b2⟩
  have HI2 := Lib.hid (HI1.out.below b2)
  have HB2 := Lib.hid (HB1.out.trans (b2.mono HB1.out.size))
  clear b2
  go_wp2_with fail
  refine (C4.out _ HI2.out).mono ?_
  rintro e w3 ⟨rfl, rfl⟩
  go_wp2_with fail
  refine (goes8_any _).mono ?_
  rintro e w3 ⟨rfl, b3⟩
  have HB3 := Lib.hid (HB2.out.trans (b3.mono HB2.out.size))
  clear b3
  go_wp2_with fail
  go_ret
  exact ⟨rfl, HB3.out⟩
end Go.Proofs.Ytnadhecgbfldmaa.rateChecks
