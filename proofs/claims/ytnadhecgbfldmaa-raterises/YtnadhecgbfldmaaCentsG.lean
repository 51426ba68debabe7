import Derived.Test.YtnadhecgbfldmaaCentsF
import Derived.Test.YtnadhecgbfldmaaSumMath2
import Derived.Test.YtnadhecgbfldmaaOwn
namespace Go.Proofs.Ytnadhecgbfldmaa
open Go.RowKit

set_option maxHeartbeats 1000000 in
theorem rsum_any (A : Option Addr) (zs : List Int) (cap : Nat) (w : World) (hI : Ints w A zs) (hlen : zs.length ≤ 4294967296) :
    Calls Try.prog 50 #[.slice A zs.length cap] w fun e w' => e = .returned (.tuple #[.int .i64 (CM.sumN zs), .int .i64 (CM.sumE zs)]) ∧ w = w' := by
  go_enter Try.func50, Try.ntmps50
  go_wp2
  go_loop [4, 5, 6] (fun f p i => ∃ k : Nat, ∃ x y : Int, k ≤ zs.length ∧ i = .int .i64 k ∧ f = .int .i64 x ∧ p = .int .i64 y ∧ CM.RSInv zs k x y) (fun _ _ i => zs.length - (intOf i).toNat)
  case atStart => exact ⟨0, 0, 0, by omega, rfl, rfl, rfl, CM.RSInv.start zs⟩
  case round =>
    obtain ⟨k, x, y, hk, rfl, rfl, rfl, hS⟩ := hrel
    obtain ⟨p1, p2, f1, f2⟩ := hS.bounds
    by_cases hlt : k < zs.length
    · obtain ⟨b, off, v, rfl, hb, hcell, HV, v1, v2⟩ := hI.get hlt
      have HI := Lib.hid hI
      clear hI
      cases hf : CM.fits v
      · have HE := Lib.hid (CM.allFit_no hlt (by rw [HV.out]; exact hf))
        go_wp2_with (go_at_call 42; refine (rfits_any _ _).mono ?_; rintro e w' ⟨rfl, rfl⟩)
        go_ret2
        exact ⟨by rw [HE.out.1, HE.out.2]; rfl, rfl⟩
      · obtain ⟨g1, g2⟩ := CM.fits_true.1 hf
        obtain ⟨t1, t2, t3, t4, t5⟩ := CM.tparts v g1 g2
        clear t5
        have HS := Lib.hid (hS.step hlt (by rw [HV.out]; exact hf))
        rw [HV.out] at HS
        go_wp2_with (go_at_call 42; refine (rfits_any _ _).mono ?_; rintro e w' ⟨rfl, rfl⟩)
        go_round
        case rel => exact ⟨k + 1, _, _, by omega, by go_num, rfl, rfl, HS.out⟩
        case measure => simp [intOf]; omega
    · obtain rfl : k = zs.length := by omega
      obtain ⟨d1, d2, d3, d4, d5, d6, d7⟩ := hS.done hlen rfl rfl
      have D1 := Lib.hid d1; have D2 := Lib.hid d2; have D3 := Lib.hid d3
      clear d1 d2 d3
      by_cases c1 : x + y.tdiv 1073741824 < -1073741825
      · have HE := Lib.hid (D1.out (.inl c1))
        go_wp2
        go_ret2
        exact ⟨by rw [HE.out.1, HE.out.2]; rfl, rfl⟩
      · by_cases c2 : 1073741825 < x + y.tdiv 1073741824
        · have HE := Lib.hid (D1.out (.inr c2))
          go_wp2
          go_ret2
          exact ⟨by rw [HE.out.1, HE.out.2]; rfl, rfl⟩
        · cases hf : CM.fits ((x + y.tdiv 1073741824) * 1073741824 + y.tmod 1073741824)
          · have E1 : Hid (CM.sumN zs = 0) := by rw [D2.out]; simp [CM.fitN, hf, Hid]
            have E2 : Hid (CM.sumE zs = 3) := by rw [D3.out]; simp [CM.fitE, hf, Hid]
            go_wp2_with (go_at_call 42; refine (rfits_any _ _).mono ?_; rintro e w' ⟨rfl, rfl⟩)
            go_ret2
            exact ⟨by rw [E1.out, E2.out]; rfl, rfl⟩
          · have E1 : Hid (CM.sumN zs = (x + y.tdiv 1073741824) * 1073741824 + y.tmod 1073741824) := by rw [D2.out]; simp [CM.fitN, hf, Hid]
            have E2 : Hid (CM.sumE zs = 0) := by rw [D3.out]; simp [CM.fitE, hf, Hid]
            go_wp2_with (go_at_call 42; refine (rfits_any _ _).mono ?_; rintro e w' ⟨rfl, rfl⟩)
            go_ret2
            exact ⟨by rw [E1.out, E2.out]; rfl, rfl⟩
end Go.Proofs.Ytnadhecgbfldmaa
