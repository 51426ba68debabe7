import Derived.Test.YtgpdkidbmfngmaaShareJ
import Derived.Test.YtgpdkidbmfngmaaCapMath3
namespace Go.Proofs.Ytgpdkidbmfngmaa.shareCaps
open Go.RowKit
set_option linter.unusedVariables false

set_option maxHeartbeats 2000000 in
theorem walk (total : Int) (A : Option Addr) (ca : Nat) (zs : List Int) (C : Option Addr) (cc : Nat) (caps : List Int) (w : World) (w0 : -9223372036854775808 ≤ total ∧ total ≤ 9223372036854775807) (hA : Ints w A zs) (hC : Ints w C caps) :
    Calls Try.prog 9 #[.int .i64 total, .slice A zs.length ca, .slice C caps.length cc] w fun e w' => e = .returned (.bool true) ∧ Below w.heap.size w w' := by
  have hlA := hA.len
  have hlC := hC.len
  clear w0
  have short : ∀ hyp : (200 < zs.length ∧ zs.length ≤ 1024) ∨ 1100 < zs.length ∨ 1100 < caps.length,
      Calls Try.prog 9 #[.int .i64 total, .slice A zs.length ca, .slice C caps.length cc] w fun e w' => e = .returned (.bool true) ∧ Below w.heap.size w w' := fun hyp => by
    by_cases h1 : 200 < zs.length
    · by_cases h2 : zs.length ≤ 1024
      · clear hyp
        go_enter Try.func9, Try.ntmps9
        go_wp2_with fail
        refine (goes2_any _).mono ?_
        rintro e w1 ⟨rfl, b1⟩
        go_wp2
        go_ret
        exact ⟨rfl, b1⟩
      · by_cases h3 : 1100 < zs.length
        · clear hyp
          go_enter Try.func9, Try.ntmps9
          go_wp2_with fail
          refine (goes2_any _).mono ?_
          rintro e w1 ⟨rfl, b1⟩
          go_wp2
          go_ret
          exact ⟨rfl, b1⟩
        · have h4 : 1100 < caps.length := by omega
          clear hyp
          go_enter Try.func9, Try.ntmps9
          go_wp2_with fail
          refine (goes2_any _).mono ?_
          rintro e w1 ⟨rfl, b1⟩
          go_wp2
          go_ret
          exact ⟨rfl, b1⟩
    · have h4 : 1100 < caps.length := by omega
      clear hyp
      go_enter Try.func9, Try.ntmps9
      go_wp2_with fail
      refine (goes2_any _).mono ?_
      rintro e w1 ⟨rfl, b1⟩
      go_wp2
      go_ret
      exact ⟨rfl, b1⟩
  by_cases hyp : (200 < zs.length ∧ zs.length ≤ 1024) ∨ 1100 < zs.length ∨ 1100 < caps.length
  · exact short hyp
  · clear short
    have hz : ¬ 1100 < zs.length := by omega
    have hc : ¬ 1100 < caps.length := by omega
    have main : ∀ hd : (200 < zs.length ∧ 1024 < zs.length) ∨ ¬ 200 < zs.length, Calls Try.prog 9 #[.int .i64 total, .slice A zs.length ca, .slice C caps.length cc] w fun e w' => e = .returned (.bool true) ∧ Below w.heap.size w w' := fun hd => by
      clear hyp
      rcases hd with ⟨d1, d2⟩ | d1
      all_goals
        go_enter Try.func9, Try.ntmps9
        go_wp2_with fail
        refine (own_any _ _ _ _ hA (by omega)).mono ?_
        rintro e w1 ⟨v, rfl, hL, b1⟩
        obtain ⟨g, c, rfl, hI1⟩ := hL.ints hA.2.1
        go_wp2_with fail
        refine (own_any _ _ _ _ (hC.below b1) (by omega)).mono ?_
        rintro e w2 ⟨v', rfl, hM, b2⟩
        obtain ⟨g', c', rfl, hJ1⟩ := hM.ints hC.2.1
        have hL := hL.below b2
        have hI1 := hI1.below b2
        have b2 := b1.trans (b2.mono b1.size)
        clear b1
        go_wp2_with fail
        refine (capped_any _ _ _ _ _ _ _ _ hI1 hJ1).mono ?_
        rintro e w3 ⟨v1, rfl, o1, b3⟩
        obtain ⟨A1, c1, rfl, i1⟩ := o1.ints (SM.capN_range _ _ _)
        clear o1
        have hL := hL.below b3
        have hM := hM.below b3
        have b3 := b2.trans (b3.mono b2.size)
        clear b2
        go_wp2_with fail
        refine (rcapped_any _ _ _ _ _ _ _ _ (hA.below b3) (hC.below b3)).mono ?_
        rintro e w4 ⟨v2, rfl, o2, b4⟩
        obtain ⟨A2, c2, rfl, i2⟩ := o2.ints (SM.capN_range _ _ _)
        clear o2
        have hL := hL.below b4
        have hM := hM.below b4
        have i1 := i1.below b4
        have b4 := b3.trans (b4.mono b3.size)
        clear b3
        go_wp2_with fail
        refine (same_any _ _ _ _ _ _ i1 i2).mono ?_
        rintro e w5 ⟨rfl, n1, rfl⟩
        have hL2 := hL.below (below_drewN (Below.refl _ _) n1)
        have hM2 := hM.below (below_drewN (Below.refl _ _) n1)
        have b5 := below_drewN b4 n1
        clear hL hM i1 i2 hI1 hJ1
        generalize hw5 : w4.drewN n1 = w5 at *
        clear hw5
        go_wp2_with fail
        refine (kept_any _ _ _ _ _ _ hL2 (hA.below b5) (by omega)).mono ?_
        rintro e w6 ⟨rfl, n2, rfl⟩
        have hM3 := hM2.below (below_drewN (Below.refl _ _) n2)
        have b6 := below_drewN b5 n2
        clear hL2 hM2
        generalize hw6 : w5.drewN n2 = w6 at *
        clear hw6
        go_wp2_with fail
        refine (kept_any _ _ _ _ _ _ hM3 (hC.below b6) (by omega)).mono ?_
        rintro e w7 ⟨rfl, n3, rfl⟩
        have b7 := below_drewN b6 n3
        go_wp2_with fail
        refine (goes2_any _).mono ?_
        rintro e w8 ⟨rfl, b8⟩
        go_wp2
        go_ret
        exact ⟨rfl, b7.trans (b8.mono b7.size)⟩
    exact main (by omega)
end Go.Proofs.Ytgpdkidbmfngmaa.shareCaps
