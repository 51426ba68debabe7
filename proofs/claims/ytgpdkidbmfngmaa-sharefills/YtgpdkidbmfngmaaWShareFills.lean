import Derived.Test.YtgpdkidbmfngmaaShareJ
namespace Go.Proofs.Ytgpdkidbmfngmaa.shareFills
open Go.RowKit
set_option linter.unusedVariables false

theorem back_range (total : Int) (zs : List Int) : ∀ n ∈ SM.backN total zs, -9223372036854775808 ≤ n ∧ n ≤ 9223372036854775807 := by
  intro n hn
  obtain ⟨h, _⟩ := SM.fill_reverse total zs
  rw [← h] at hn
  exact fillN_range _ _ n (List.mem_reverse.1 hn)

set_option maxHeartbeats 2000000 in
theorem walk (total : Int) (A : Option Addr) (cap : Nat) (zs : List Int) (w : World) (w0 : -9223372036854775808 ≤ total ∧ total ≤ 9223372036854775807) (hI : Ints w A zs) :
    Calls Try.prog 10 #[.int .i64 total, .slice A zs.length cap] w fun e w' => e = .returned (.bool true) ∧ Below w.heap.size w w' := by
  have hlen := hI.len
  clear w0
  by_cases hl : 1100 < zs.length
  · go_enter Try.func10, Try.ntmps10
    go_wp2_with fail
    refine (goes2_any _).mono ?_
    rintro e w1 ⟨rfl, b1⟩
    go_wp2
    go_ret
    exact ⟨rfl, b1⟩
  · go_enter Try.func10, Try.ntmps10
    go_wp2_with fail
    refine (own_any _ _ _ _ hI (by omega)).mono ?_
    rintro e w1 ⟨v, rfl, hL, b1⟩
    obtain ⟨g, c, rfl, hI1⟩ := hL.ints hI.2.1
    go_wp2_with fail
    refine (fill_any _ _ _ _ _ hI1).mono ?_
    rintro e w2 ⟨v1, rfl, o1, b2⟩
    obtain ⟨A1, c1, rfl, i1⟩ := o1.ints (fillN_range _ _)
    clear o1
    have hL := hL.below b2
    have hI1 := hI1.below b2
    have b2 := b1.trans (b2.mono b1.size)
    clear b1
    go_wp2_with fail
    refine (rfill_any _ _ _ _ _ (hI.below b2)).mono ?_
    rintro e w3 ⟨v2, rfl, o2, b3⟩
    obtain ⟨A2, c2, rfl, i2⟩ := o2.ints (fillN_range _ _)
    clear o2
    have hL := hL.below b3
    have hI1 := hI1.below b3
    have i1 := i1.below b3
    have b3 := b2.trans (b3.mono b2.size)
    clear b2
    go_wp2_with fail
    refine (back_any _ _ _ _ _ hI1).mono ?_
    rintro e w4 ⟨v3, rfl, o3, b4⟩
    obtain ⟨A3, c3, rfl, i3⟩ := o3.ints (back_range _ _)
    clear o3
    have hL := hL.below b4
    have i1 := i1.below b4
    have i2 := i2.below b4
    have b4 := b3.trans (b4.mono b3.size)
    clear b3 hI1
    go_wp2_with fail
    refine (rback_any _ _ _ _ _ (hI.below b4) (by omega)).mono ?_
    rintro e w5 ⟨v4, rfl, o4, b5⟩
    obtain ⟨A4, c4, rfl, i4⟩ := o4.ints (back_range _ _)
    clear o4
    have hL := hL.below b5
    have i1 := i1.below b5
    have i2 := i2.below b5
    have i3 := i3.below b5
    have b5 := b4.trans (b5.mono b4.size)
    clear b4
    go_wp2_with fail
    refine (same_any _ _ _ _ _ _ i1 i2).mono ?_
    rintro e w6 ⟨rfl, n1, rfl⟩
    go_wp2_with fail
    refine (same_any _ _ _ _ _ _ (i3.drewN n1) (i4.drewN n1)).mono ?_
    rintro e w7 ⟨rfl, n2, rfl⟩
    have hL2 := hL.below (below_drewN (Below.refl _ _) n1)
    have hL3 := hL2.below (below_drewN (Below.refl _ _) n2)
    have b7 := below_drewN (below_drewN b5 n1) n2
    clear hL hL2 i1 i2 i3 i4
    generalize hw7 : (w5.drewN n1).drewN n2 = w7 at *
    clear hw7
    go_wp2_with fail
    refine (kept_any _ _ _ _ _ _ hL3 (hI.below b7) (by omega)).mono ?_
    rintro e w8 ⟨rfl, n3, rfl⟩
    have b8 := below_drewN b7 n3
    go_wp2_with fail
    refine (goes2_any _).mono ?_
    rintro e w9 ⟨rfl, b9⟩
    go_wp2
    go_ret
    exact ⟨rfl, b8.trans (b9.mono b8.size)⟩
end Go.Proofs.Ytgpdkidbmfngmaa.shareFills
