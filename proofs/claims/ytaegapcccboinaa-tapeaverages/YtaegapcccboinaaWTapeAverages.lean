import Derived.Test.YtaegapcccboinaaTapI
namespace Go.Proofs.Ytaegapcccboinaa.tapeAverages
open Go.RowKit Go.Recs
set_option linter.unusedVariables false
set_option maxHeartbeats 4000000 in
theorem walk (A : Option Addr) (cap : Nat) (l : List TP.Tick) (step mode : Int) (w : World) (hI : Ticks w A l ∧ l.length ≤ cap) (hs : -9223372036854775808 ≤ step ∧ step ≤ 9223372036854775807) (hm : -9223372036854775808 ≤ mode ∧ mode ≤ 9223372036854775807) :
    Calls Try.prog 3 #[.slice A l.length cap, .int .i64 step, .int .i64 mode] w fun e w' => e = .returned (.bool true) ∧ Below w.heap.size w w' := by
  obtain ⟨hI, _⟩ := hI
  have C1 := Lib.hid (vwap_any A l l.length cap step mode rfl w hI)
  have C2 := Lib.hid (fun ww h => rvwap17_any A l l.length cap step mode rfl ww h)
  have CG := Lib.hid (fun ww => goes17_any ww)
  have HI := Lib.hid hI
  generalize TP.vwE l step mode = y at *
  generalize TP.vwN l step mode = x at *
  clear hI hs hm
  go_enter Try.func3, Try.ntmps3
  go_wp2_with fail
  refine (C1.out).mono ?_
  rintro e w1 ⟨rfl, b1⟩
  have HB1 := Lib.hid b1
  clear b1
  go_wp2_with fail
  refine (C2.out _ (HI.out.below HB1.out)).mono ?_
  rintro e w2 ⟨rfl, n2, rfl⟩
  have HB2 := Lib.hid (below_drewN HB1.out n2)
  go_wp2_with fail
  refine (CG.out _).mono ?_
  rintro e w3 ⟨rfl, b3⟩
  have HB3 := Lib.hid (HB2.out.trans (b3.mono HB2.out.size))
  clear b3
  go_wp2_with fail
  go_ret
  exact ⟨rfl, HB3.out⟩
end Go.Proofs.Ytaegapcccboinaa.tapeAverages
