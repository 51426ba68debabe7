import Derived.Test.YtnadhecgbfldmaaCentsE
import Derived.Test.YtnadhecgbfldmaaSumMath
import Derived.Test.YtnadhecgbfldmaaBase
namespace Go.Proofs.Ytnadhecgbfldmaa
open Go.RowKit

set_option maxHeartbeats 1000000 in
theorem sum_any (A : Option Addr) (zs : List Int) (cap : Nat) (w : World) (hI : Ints w A zs) :
    Calls Try.prog 49 #[.slice A zs.length cap] w fun e w' => e = .returned (.tuple #[.int .i64 (CM.sumN zs), .int .i64 (CM.sumE zs)]) ∧ w = w' := by
  have hlen := hI.len
  go_enter Try.func49, Try.ntmps49
  go_wp2
  go_loop [4, 5, 10] (fun f p i => ∃ k : Nat, ∃ x y : Int, k ≤ zs.length ∧ i = .int .i64 k ∧ f = .int .i64 x ∧ p = .int .i64 y ∧ CM.SInv zs k x y) (fun _ _ i => zs.length - (intOf i).toNat)
  case atStart => exact ⟨0, 0, 0, by omega, rfl, rfl, rfl, CM.SInv.start zs⟩
  case round =>
    obtain ⟨k, x, y, hk, rfl, rfl, rfl, hS⟩ := hrel
    obtain ⟨p1, p2, f1, f2⟩ := hS.bounds
    by_cases hlt : k < zs.length
    · obtain ⟨b, off, v, rfl, hb, hcell, HV, v1, v2⟩ := hI.get hlt
      have HI := Lib.hid hI
      clear hI
      cases hf : CM.fits v
      · have HE := Lib.hid (CM.allFit_no hlt (by rw [HV.out]; exact hf))
        go_wp2_with (go_at_call 53; refine (fits_any _ _).mono ?_; rintro e w' ⟨rfl, rfl⟩)
        go_ret2
        exact ⟨by rw [HE.out.1, HE.out.2]; rfl, rfl⟩
      · obtain ⟨g1, g2⟩ := CM.fits_true.1 hf
        have HS := Lib.hid (fun f' p' => @CM.SInv.step zs k x y f' p' hS hlt (by rw [HV.out]; exact hf))
        rw [HV.out] at HS
        by_cases c1 : 1152921504606846976 ≤ y + v
        · go_wp2_with (go_at_call 53; refine (fits_any _ _).mono ?_; rintro e w' ⟨rfl, rfl⟩)
          go_round
          case rel => exact ⟨k + 1, _, _, by omega, by go_num, rfl, rfl, HS.out _ _ (by omega) (by omega) (by omega) (by omega) (by omega)⟩
          case measure => simp [intOf]; omega
        · by_cases c2 : y + v ≤ -1152921504606846976
          · go_wp2_with (go_at_call 53; refine (fits_any _ _).mono ?_; rintro e w' ⟨rfl, rfl⟩)
            go_round
            case rel => exact ⟨k + 1, _, _, by omega, by go_num, rfl, rfl, HS.out _ _ (by omega) (by omega) (by omega) (by omega) (by omega)⟩
            case measure => simp [intOf]; omega
          · go_wp2_with (go_at_call 53; refine (fits_any _ _).mono ?_; rintro e w' ⟨rfl, rfl⟩)
            go_round
            case rel => exact ⟨k + 1, _, _, by omega, by go_num, rfl, rfl, HS.out _ _ (by omega) (by omega) (by omega) (by omega) (by omega)⟩
            case measure => simp [intOf]; omega
    · obtain rfl : k = zs.length := by omega
      obtain ⟨d1, d2⟩ := hS.done
      have D1 := Lib.hid d1; have D2 := Lib.hid d2
      clear d1 d2
      by_cases c1 : 1 < x
      · have HE := Lib.hid (D1.out (.inl c1))
        go_wp2
        go_ret2
        exact ⟨by rw [HE.out.1, HE.out.2]; rfl, rfl⟩
      · by_cases c2 : x < -1
        · have HE := Lib.hid (D1.out (.inr c2))
          go_wp2
          go_ret2
          exact ⟨by rw [HE.out.1, HE.out.2]; rfl, rfl⟩
        · go_wp2_with (go_at_call 57; refine (fitting_any _ _).mono ?_; rintro e w' ⟨rfl, rfl⟩)
          go_ret2
          exact ⟨by rw [D2.out.1, D2.out.2]; rfl, rfl⟩

theorem ints_three (x y z : Int) (w : World) (hx : -9223372036854775808 ≤ x ∧ x ≤ 9223372036854775807) (hy : -9223372036854775808 ≤ y ∧ y ≤ 9223372036854775807) (hz : -9223372036854775808 ≤ z ∧ z ≤ 9223372036854775807) :
    Ints (w.alloc (.cells #[.int .i64 x, .int .i64 y, .int .i64 z] 3)) (some ⟨w.heap.size, 0, none⟩) [x, y, z] := by
  refine ⟨by unfold maxLen; simp, by simp; omega, .inr ⟨_, _, rfl, by simp, fun i hi => ?_⟩⟩
  rw [Nat.zero_add]
  have : i = 0 ∨ i = 1 ∨ i = 2 := by simp at hi; omega
  rcases this with rfl | rfl | rfl <;> simp

end Go.Proofs.Ytnadhecgbfldmaa
