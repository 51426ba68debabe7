import Derived.Test.YtaegapcccboinaaTapF
import Derived.Test.YtaegapcccboinaaTapeMath2
namespace Go.Proofs.Ytaegapcccboinaa.tapeWithin
open Go.RowKit Go.Recs
set_option linter.unusedVariables false
set_option maxHeartbeats 4000000 in
theorem walk (A : Option Addr) (cap : Nat) (l : List TP.Tick) (w : World) (hI : Ticks w A l ∧ l.length ≤ cap) :
    Calls Try.prog 5 #[.slice A l.length cap] w fun e w' => e = .returned (.bool true) ∧ Below w.heap.size w w' := by
  obtain ⟨hI, _⟩ := hI
  have C1 := Lib.hid (range_any A l l.length cap rfl w hI)
  have C2 := Lib.hid (fun ww h => vwap_any A l l.length cap 1 3 rfl ww h)
  have C3 := Lib.hid (fun ww h => vwap_any A l l.length cap 1 4 rfl ww h)
  have CG := Lib.hid (fun ww => goes17_any ww)
  have HI := Lib.hid hI
  have K := @TP.within l
  have KZ := @TP.vw_bad l 1 3
  have KZ4 := @TP.vw_bad l 1 4
  have e4 : TP.vwE l 1 4 = TP.vwE l 1 3 := TP.vw_modes (by omega) (by omega)
  rw [e4] at C3 KZ4
  clear hI e4
  generalize TP.vwE l 1 3 = y at *
  generalize TP.vwN l 1 3 = a at *
  generalize TP.vwN l 1 4 = b at *
  generalize TP.lowN l = lo at *
  generalize TP.highN l = hi at *
  by_cases hy : y = 0
  · subst hy
    obtain ⟨k0, k1, k2, k3, k4, k5, k6⟩ := K rfl
    rw [show decide (0 < l.length) = true by simp [k0]] at C1
    clear K KZ KZ4
    go_enter Try.func5, Try.ntmps5
    go_wp2_with fail
    refine (C1.out).mono ?_
    rintro e w1 ⟨rfl, b1⟩
    have HB1 := Lib.hid b1
    clear b1
    go_wp2_with fail
    refine (C2.out _ (HI.out.below HB1.out)).mono ?_
    rintro e w2 ⟨rfl, b2⟩
    have HB2 := Lib.hid (HB1.out.trans (b2.mono HB1.out.size))
    clear b2
    go_wp2_with fail
    refine (C3.out _ (HI.out.below HB2.out)).mono ?_
    rintro e w3 ⟨rfl, b3⟩
    have HB3 := Lib.hid (HB2.out.trans (b3.mono HB2.out.size))
    clear b3
    go_wp2_with fail
    refine (CG.out _).mono ?_
    rintro e w4 ⟨rfl, b4⟩
    have HB4 := Lib.hid (HB3.out.trans (b4.mono HB3.out.size))
    clear b4
    go_wp2_with fail
    go_ret
    exact ⟨rfl, HB4.out⟩
  · obtain rfl := KZ hy
    obtain rfl := KZ4 hy
    clear K KZ KZ4
    go_enter Try.func5, Try.ntmps5
    go_wp2_with fail
    refine (C1.out).mono ?_
    rintro e w1 ⟨rfl, b1⟩
    have HB1 := Lib.hid b1
    clear b1
    go_wp2_with fail
    refine (C2.out _ (HI.out.below HB1.out)).mono ?_
    rintro e w2 ⟨rfl, b2⟩
    have HB2 := Lib.hid (HB1.out.trans (b2.mono HB1.out.size))
    clear b2
    go_wp2_with fail
    refine (C3.out _ (HI.out.below HB2.out)).mono ?_
    rintro e w3 ⟨rfl, b3⟩
    have HB3 := Lib.hid (HB2.out.trans (b3.mono HB2.out.size))
    clear b3
    go_wp2_with fail
    refine (CG.out _).mono ?_
    rintro e w4 ⟨rfl, b4⟩
    have HB4 := Lib.hid (HB3.out.trans (b4.mono HB3.out.size))
    clear b4
    go_wp2_with fail
    go_ret
    exact ⟨rfl, HB4.out⟩
end Go.Proofs.Ytaegapcccboinaa.tapeWithin
