import Derived.Test.YtlnllbcpbohahaaMemN
namespace Go.Proofs.Ytlnllbcpbohahaa.memberChecks
open Go.RowKit Go.Recs
set_option linter.unusedVariables false
set_option maxHeartbeats 2000000 in
theorem walk (A : Option Addr) (cap : Nat) (l : List MM.Mem) (w : World) (hI : Mems w A l ∧ l.length ≤ cap) :
    Calls Try.prog 3 #[.slice A l.length cap] w fun e w' => e = .returned (.bool true) ∧ Below w.heap.size w w' := by
  have C0 := Lib.hid (fun ww h => mcheck_any A l cap ww h)
  have C1 := Lib.hid (fun ww h => rmcheck_any A l cap ww h)
  have CG := Lib.hid (fun ww => goes11_any ww)
  have HI := Lib.hid hI.1
  generalize MM.checkE l = r at *
  clear hI
  go_enter Try.func3, Try.ntmps3
  go_wp2_with fail
  refine (C0.out _ HI.out).mono ?_
  rintro e w1 ⟨rfl, b1⟩
  have HB1 := Lib.hid b1
  clear b1
  go_wp2_with fail
  refine (C1.out _ (HI.out.below HB1.out)).mono ?_
  rintro e w2 ⟨rfl, b2⟩
  have HB2 := Lib.hid (HB1.out.trans (b2.mono HB1.out.size))
  clear b2
  go_wp2_with fail
  refine (CG.out _).mono ?_
  rintro e w3 ⟨rfl, b3⟩
  have HB3 := Lib.hid (HB2.out.trans (b3.mono HB2.out.size))
  clear b3
  go_wp2_with fail
  go_ret
  exact ⟨rfl, HB3.out⟩
end Go.Proofs.Ytlnllbcpbohahaa.memberChecks
