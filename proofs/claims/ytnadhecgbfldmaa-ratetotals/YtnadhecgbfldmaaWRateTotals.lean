import Derived.Test.YtnadhecgbfldmaaRateI
import Derived.Test.YtnadhecgbfldmaaRateH
namespace Go.Proofs.Ytnadhecgbfldmaa.rateTotals
open Go.RowKit Go.Recs
set_option linter.unusedVariables false

set_option maxHeartbeats 1000000 in
theorem walk (A : Option Addr) (cap : Nat) (l : List RM.Rate) (C : Option Addr) (cn : Nat) (n : List Int) (mode : Int) (w : World) (hI : Rates w A l ∧ l.length ≤ cap) (hN : Ints w C n) (hm : -9223372036854775808 ≤ mode ∧ mode ≤ 9223372036854775807) :
    Calls Try.prog 10 #[.slice A l.length cap, .slice C n.length cn, .int .i64 mode] w fun e w' => e = .returned (.bool true) ∧ Below w.heap.size w w' := by
  obtain ⟨hI, hcap⟩ := hI
  have C1 := Lib.hid (total_any A C l n cap cn mode w hI hcap hN)
  have C2 := Lib.hid (fun ww h h2 => rtotal_any A C l n cap cn mode ww h h2)
  have HI := Lib.hid hI
  have HN := Lib.hid hN
  generalize RM.toN l n mode = x at *
  generalize RM.toE l n mode = y at *
  clear hI hN hm
  go_enter Try.func10, Try.ntmps10
  go_wp2_with fail
  refine (C1.out).mono ?_
  rintro e w1 ⟨rfl, b1⟩
  have HI1 := Lib.hid (HI.out.below b1)
  have HN1 := Lib.hid (HN.out.below b1)
  have HB1 := Lib.hid b1
  clear b1
  go_wp2_with fail
  refine (C2.out _ HI1.out HN1.out).mono ?_
  rintro e w2 ⟨rfl, b2⟩
  have HB2 := Lib.hid (HB1.out.trans (b2.mono HB1.out.size))
  clear b2
  go_wp2_with fail
  refine (goes8_any _).mono ?_
  rintro e w3 ⟨rfl, b3⟩
  have HB3 := Lib.hid (HB2.out.trans (b3.mono HB2.out.size))
  clear b3
  go_wp2_with fail
  go_ret
  exact ⟨rfl, HB3.out⟩
end Go.Proofs.Ytnadhecgbfldmaa.rateTotals
