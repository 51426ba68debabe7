import Derived.Test.YthahfcehfagepaaWorkI
namespace Go.Proofs.Ythahfcehfagepaa.workdayTells
open Go.RowKit
set_option linter.unusedVariables false

set_option maxHeartbeats 2000000 in
set_option maxRecDepth 100000 in
theorem walk (A : Option Addr) (cap : Nat) (zs : List Int) (day : Int) (w : World) (hI : Ints w A zs) (w1 : -9223372036854775808 ≤ day ∧ day ≤ 9223372036854775807) :
    Calls Try.prog 9 #[.slice A zs.length cap, .int .i64 day] w fun e w' => e = .returned (.bool true) ∧ Below w.heap.size w w' := by
  have hlen := hI.len
  have H0 := Lib.hid (fun ww => few_any A zs.length cap ww hlen)
  cases hf : fewB zs.length
  · rw [hf] at H0
    clear hI
    go_enter Try.func9, Try.ntmps9
    go_wp2_with fail
    refine (H0.out _).mono ?_
    rintro e w1 ⟨rfl, rfl⟩
    go_wp2_with fail
    refine (goes6_any _).mono ?_
    rintro e w1 ⟨rfl, b1⟩
    go_wp2
    go_ret
    exact ⟨rfl, b1⟩
  · rw [hf] at H0
    have C1 := Lib.hid (fun ww (h : Ints ww A zs) => works_any A zs cap day ww h); have C2 := Lib.hid (fun ww (h : Ints ww A zs) => rworks_any A zs cap day ww h)
    have C3 := Lib.hid (fun ww (h : Ints ww A zs) => next_any A zs cap day ww h); have C4 := Lib.hid (fun ww (h : Ints ww A zs) => rnext_any A zs cap day ww h)
    have C5 := Lib.hid (fun ww (h : Ints ww A zs) => before_any A zs cap day ww h); have C6 := Lib.hid (fun ww (h : Ints ww A zs) => rbefore_any A zs cap day ww h)
    have C7 := Lib.hid (fun ww (h : Ints ww A zs) => on_any A zs cap day ww h); have C8 := Lib.hid (fun ww (h : Ints ww A zs) => ron_any A zs cap day ww h)
    have C9 := Lib.hid (fun ww (h : Ints ww A zs) => check_any A zs cap ww h); have C10 := Lib.hid (fun ww (h : Ints ww A zs) => rcheck_any A zs cap ww h)
    generalize KM.wkN zs day = v1 at *
    generalize KM.cdE zs day = v2 at *
    generalize KM.adN zs day 1 = v3 at *
    generalize KM.adE zs day 1 = v4 at *
    generalize KM.adN zs day (-1) = v5 at *
    generalize KM.adE zs day (-1) = v6 at *
    generalize KM.adN zs day 0 = v7 at *
    generalize KM.adE zs day 0 = v8 at *
    generalize KM.checkE zs = v9 at *
    have HI := Lib.hid hI
    clear hI
    go_enter Try.func9, Try.ntmps9
    go_wp2_with fail
    refine (H0.out _).mono ?_
    rintro e w1 ⟨rfl, rfl⟩
    go_wp2_with fail
    refine (C1.out _ HI.out).mono ?_
    rintro e w1 ⟨rfl, rfl⟩
    go_wp2_with fail
    refine (C2.out _ HI.out).mono ?_
    rintro e w1 ⟨rfl, q1, rfl⟩
    have B1 := Lib.hid (below_drewN (Below.refl w.heap.size w) q1)
    generalize w.drewN q1 = w1 at *
    go_wp2_with fail
    refine (C3.out _ (HI.out.below B1.out)).mono ?_
    rintro e w2 ⟨rfl, b2⟩
    have B2 := Lib.hid (B1.out.trans (b2.mono B1.out.size))
    clear b2 B1
    go_wp2_with fail
    refine (C4.out _ (HI.out.below B2.out)).mono ?_
    rintro e w3 ⟨rfl, q3, rfl⟩
    have B3 := Lib.hid (below_drewN B2.out q3)
    generalize w2.drewN q3 = w3 at *
    clear B2
    go_wp2_with fail
    refine (C5.out _ (HI.out.below B3.out)).mono ?_
    rintro e w4 ⟨rfl, b4⟩
    have B4 := Lib.hid (B3.out.trans (b4.mono B3.out.size))
    clear b4 B3
    go_wp2_with fail
    refine (C6.out _ (HI.out.below B4.out)).mono ?_
    rintro e w5 ⟨rfl, q5, rfl⟩
    have B5 := Lib.hid (below_drewN B4.out q5)
    generalize w4.drewN q5 = w5 at *
    clear B4
    go_wp2_with fail
    refine (C7.out _ (HI.out.below B5.out)).mono ?_
    rintro e w6 ⟨rfl, b6⟩
    have B6 := Lib.hid (B5.out.trans (b6.mono B5.out.size))
    clear b6 B5
    go_wp2_with fail
    refine (C8.out _ (HI.out.below B6.out)).mono ?_
    rintro e w7 ⟨rfl, q7, rfl⟩
    have B7 := Lib.hid (below_drewN B6.out q7)
    generalize w6.drewN q7 = w7 at *
    clear B6
    go_wp2_with fail
    refine (C9.out _ (HI.out.below B7.out)).mono ?_
    rintro e w8 ⟨rfl, rfl⟩
    go_wp2_with fail
    refine (C10.out _ (HI.out.below B7.out)).mono ?_
    rintro e w8 ⟨rfl, q8, rfl⟩
    have B8 := Lib.hid (below_drewN B7.out q8)
    generalize w7.drewN q8 = w8 at *
    clear B7
    go_wp2_with fail
    refine (goes6_any _).mono ?_
    rintro e w9 ⟨rfl, b9⟩
    have B9 := Lib.hid (B8.out.trans (b9.mono B8.out.size))
    clear b9 B8
    go_wp2
    go_ret
    exact ⟨rfl, B9.out⟩
end Go.Proofs.Ythahfcehfagepaa.workdayTells
