import Derived.Test.YthahfcehfagepaaWorkI
namespace Go.Proofs.Ythahfcehfagepaa.workdayExpires
open Go.RowKit
set_option linter.unusedVariables false

set_option maxHeartbeats 1000000 in
theorem walk (A : Option Addr) (cap : Nat) (zs : List Int) (y m : Int) (w : World) (hI : Ints w A zs) (w1 : -9223372036854775808 ≤ y ∧ y ≤ 9223372036854775807) (w2 : -9223372036854775808 ≤ m ∧ m ≤ 9223372036854775807) :
    Calls Try.prog 11 #[.slice A zs.length cap, .int .i64 y, .int .i64 m] w fun e w' => e = .returned (.bool true) ∧ Below w.heap.size w w' := by
  have hlen := hI.len
  have H0 := Lib.hid (fun ww => few_any A zs.length cap ww hlen)
  have C1 := Lib.hid (fun ww (h : Ints ww A zs) => expiry_any A zs cap y m ww h); have C2 := Lib.hid (fun ww (h : Ints ww A zs) => rexpiry_any A zs cap y m ww h)
  generalize KM.exN zs y m = v1 at *
  generalize KM.exE zs y m = v2 at *
  have HI := Lib.hid hI
  clear hI
  cases hf : fewB zs.length
  · rw [hf] at H0
    go_enter Try.func11, Try.ntmps11
    go_wp2_with fail
    refine (H0.out _).mono ?_
    rintro e w1 ⟨rfl, rfl⟩
    go_wp2_with fail
    refine (goes6_any _).mono ?_
    rintro e w1 ⟨rfl, b1⟩
    go_wp2
    go_ret
    exact ⟨rfl, b1⟩
  · rw [hf] at H0
    go_enter Try.func11, Try.ntmps11
    go_wp2_with fail
    refine (H0.out _).mono ?_
    rintro e w1 ⟨rfl, rfl⟩
    go_wp2_with fail
    refine (C1.out _ HI.out).mono ?_
    rintro e w1 ⟨rfl, b1⟩
    have B1 := Lib.hid b1
    clear b1
    go_wp2_with fail
    refine (C2.out _ (HI.out.below B1.out)).mono ?_
    rintro e w2 ⟨rfl, q2, rfl⟩
    have B2 := Lib.hid (below_drewN B1.out q2)
    generalize w1.drewN q2 = w2 at *
    clear B1
    go_wp2_with fail
    refine (goes6_any _).mono ?_
    rintro e w4 ⟨rfl, b4⟩
    have B4 := Lib.hid (B2.out.trans (b4.mono B2.out.size))
    clear b4 B2
    go_wp2
    go_ret
    exact ⟨rfl, B4.out⟩
end Go.Proofs.Ythahfcehfagepaa.workdayExpires
