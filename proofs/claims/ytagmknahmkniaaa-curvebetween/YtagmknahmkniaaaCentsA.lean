/- Contracts of layer 1's small functions and of their references. -/
import Derived.Test.YtagmknahmkniaaaRows
import Derived.Test.YtagmknahmkniaaaCentsMath
import Derived.WalkKit
import Derived.WalkSpells
import Derived.WalkLawsBesides
import Derived.IntWalk
import Derived.Lib.Hide
namespace Go.Proofs.Ytagmknahmkniaaa
open Go.RowKit

theorem fits_any (n : Int) (w : World) :
    Calls Try.prog 67 #[.int .i64 n] w fun e w' => e = .returned (.bool (CM.fits n)) ∧ w = w' := by
  by_cases h1 : -1152921504606846976 ≤ n
  · by_cases h2 : n ≤ 1152921504606846976
    · have h : CM.fits n = true := CM.fits_true.2 ⟨h1, h2⟩
      rw [h]; clear h
      go_enter Try.func67, Try.ntmps67
      go_wp2
      go_ret
      exact ⟨rfl, rfl⟩
    · have h : CM.fits n = false := CM.fits_false.2 (by omega)
      rw [h]; clear h
      go_enter Try.func67, Try.ntmps67
      go_wp2
      go_ret
      exact ⟨rfl, rfl⟩
  · have h : CM.fits n = false := CM.fits_false.2 (by omega)
    rw [h]; clear h
    go_enter Try.func67, Try.ntmps67
    go_wp2
    go_ret
    exact ⟨rfl, rfl⟩

theorem fitting_any (n : Int) (w : World) :
    Calls Try.prog 71 #[.int .i64 n] w fun e w' => e = .returned (.tuple #[.int .i64 (CM.fitN n), .int .i64 (CM.fitE n)]) ∧ w = w' := by
  cases h : CM.fits n
  · have hn : CM.fitN n = 0 := by simp [CM.fitN, h]
    have he : CM.fitE n = 3 := by simp [CM.fitE, h]
    rw [hn, he]; clear hn he
    go_enter Try.func71, Try.ntmps71
    go_wp2_with (go_at_call 67; refine (fits_any _ _).mono ?_; rintro e w' ⟨rfl, rfl⟩)
    go_ret2
    exact ⟨rfl, rfl⟩
  · have hn : CM.fitN n = n := by simp [CM.fitN, h]
    have he : CM.fitE n = 0 := by simp [CM.fitE, h]
    rw [hn, he]; clear hn he
    go_enter Try.func71, Try.ntmps71
    go_wp2_with (go_at_call 67; refine (fits_any _ _).mono ?_; rintro e w' ⟨rfl, rfl⟩)
    go_ret2
    exact ⟨rfl, rfl⟩

theorem clamp_any (n low high : Int) (w : World) :
    Calls Try.prog 32 #[.int .i64 n, .int .i64 low, .int .i64 high] w fun e w' => e = .returned (.int .i64 (CM.clamp n low high)) ∧ w = w' := by
  by_cases h1 : n < low
  · have h : CM.clamp n low high = low := by simp [CM.clamp, h1]
    rw [h]; clear h
    go_enter Try.func32, Try.ntmps32
    go_wp2
    go_ret
    exact ⟨rfl, rfl⟩
  · by_cases h2 : high < low
    · have h : CM.clamp n low high = low := by simp [CM.clamp, h2]
      rw [h]; clear h
      go_enter Try.func32, Try.ntmps32
      go_wp2
      go_ret
      exact ⟨rfl, rfl⟩
    · by_cases h3 : high < n
      · have h : CM.clamp n low high = high := by simp [CM.clamp, h1, h2, h3]
        rw [h]; clear h
        go_enter Try.func32, Try.ntmps32
        go_wp2
        go_ret
        exact ⟨rfl, rfl⟩
      · have h : CM.clamp n low high = n := by simp [CM.clamp, h1, h2, h3]
        rw [h]; clear h
        go_enter Try.func32, Try.ntmps32
        go_wp2
        go_ret
        exact ⟨rfl, rfl⟩

theorem size_any (n : Int) (w : World) (h1 : -1152921504606846976 ≤ n) (h2 : n ≤ 1152921504606846976) :
    Calls Try.prog 69 #[.int .i64 n] w fun e w' => e = .returned (.int .i64 (CM.size n)) ∧ w = w' := by
  by_cases h : n < 0
  · have hs : CM.size n = -n := by simp [CM.size, h]
    rw [hs]; clear hs
    go_enter Try.func69, Try.ntmps69
    go_wp2
    go_ret
    exact ⟨rfl, rfl⟩
  · have hs : CM.size n = n := by simp [CM.size, h]
    rw [hs]; clear hs
    go_enter Try.func69, Try.ntmps69
    go_wp2
    go_ret
    exact ⟨rfl, rfl⟩

end Go.Proofs.Ytagmknahmkniaaa
