import Derived.Test.YthahfcehfagepaaWorkI
namespace Go.Proofs.Ythahfcehfagepaa.workdayAdds
open Go.RowKit
set_option linter.unusedVariables false

set_option maxHeartbeats 2000000 in
set_option maxRecDepth 100000 in
theorem walk (A : Option Addr) (cap : Nat) (zs : List Int) (day n : Int) (w : World) (hI : Ints w A zs) (w1 : -9223372036854775808 ≤ day ∧ day ≤ 9223372036854775807) (w2 : -9223372036854775808 ≤ n ∧ n ≤ 9223372036854775807) :
    Calls Try.prog 10 #[.slice A zs.length cap, .int .i64 day, .int .i64 n] w fun e w' => e = .returned (.bool true) ∧ Below w.heap.size w w' := by
  have hlen := hI.len
  have H0 := Lib.hid (fun ww => few_any A zs.length cap ww hlen)
  have hcase : (fewB zs.length = false) ∨ (fewB zs.length = true ∧ 12 < zs.length ∧ zs.length ≤ 1024) ∨ (fewB zs.length = true ∧ zs.length ≤ 12) ∨ (fewB zs.length = true ∧ 12 < zs.length ∧ 1024 < zs.length) := by
    cases hf : fewB zs.length
    · exact .inl rfl
    · rcases Nat.lt_or_ge 12 zs.length with g | g
      · rcases Nat.lt_or_ge 1024 zs.length with g2 | g2
        · exact .inr (.inr (.inr ⟨rfl, g, g2⟩))
        · exact .inr (.inl ⟨rfl, g, g2⟩)
      · exact .inr (.inr (.inl ⟨rfl, g⟩))
  have C1 := Lib.hid (fun ww (h : Ints ww A zs) => add6_any A zs cap day n ww h w2.1 w2.2); have C2 := Lib.hid (fun ww (h : Ints ww A zs) => radd6_any A zs cap day n ww h w2.1 w2.2)
  have C3 := Lib.hid (fun ww (h : Ints ww A zs) => count_any A zs cap day n ww h); have C4 := Lib.hid (fun ww (h : Ints ww A zs) => rcount_any A zs cap day n ww h)
  generalize KM.adN zs day n = v1 at *
  generalize KM.adE zs day n = v2 at *
  generalize KM.coN zs day n = v3 at *
  generalize KM.coE zs day n = v4 at *
  have HI := Lib.hid hI
  clear hI
  rcases hcase with hf | ⟨hf, g1, g2⟩ | ⟨hf, g1⟩ | ⟨hf, g1, g2⟩
  · rw [hf] at H0
    go_enter Try.func10, Try.ntmps10
    go_wp2_with fail
    refine (H0.out _).mono ?_
    rintro e w1 ⟨rfl, rfl⟩
    go_wp2_with fail
    refine (goes6_any _).mono ?_
    rintro e w1 ⟨rfl, b1⟩
    go_wp2
    go_ret
    exact ⟨rfl, b1⟩
  · rw [hf] at H0
    go_enter Try.func10, Try.ntmps10
    go_wp2_with fail
    refine (H0.out _).mono ?_
    rintro e w1 ⟨rfl, rfl⟩
    go_wp2_with fail
    refine (goes6_any _).mono ?_
    rintro e w1 ⟨rfl, b1⟩
    go_wp2
    go_ret
    exact ⟨rfl, b1⟩
  all_goals
    rw [hf] at H0
    go_enter Try.func10, Try.ntmps10
    go_wp2_with fail
    refine (H0.out _).mono ?_
    rintro e w1 ⟨rfl, rfl⟩
    go_wp2_with fail
    refine (C1.out _ HI.out).mono ?_
    rintro e w1 ⟨rfl, b1⟩
    have B1 := Lib.hid b1
    clear b1
    go_wp2_with fail
    refine (C2.out _ (HI.out.below B1.out)).mono ?_
    rintro e w2 ⟨rfl, q2, rfl⟩
    have B2 := Lib.hid (below_drewN B1.out q2)
    generalize w1.drewN q2 = w2 at *
    clear B1
    go_wp2_with fail
    refine (C3.out _ (HI.out.below B2.out)).mono ?_
    rintro e w3 ⟨rfl, rfl⟩
    go_wp2_with fail
    refine (C4.out _ (HI.out.below B2.out)).mono ?_
    rintro e w3 ⟨rfl, q3, rfl⟩
    have B3 := Lib.hid (below_drewN B2.out q3)
    generalize w2.drewN q3 = w3 at *
    clear B2
    go_wp2_with fail
    refine (goes6_any _).mono ?_
    rintro e w4 ⟨rfl, b4⟩
    have B4 := Lib.hid (B3.out.trans (b4.mono B3.out.size))
    clear b4 B3
    go_wp2
    go_ret
    exact ⟨rfl, B4.out⟩
end Go.Proofs.Ythahfcehfagepaa.workdayAdds
