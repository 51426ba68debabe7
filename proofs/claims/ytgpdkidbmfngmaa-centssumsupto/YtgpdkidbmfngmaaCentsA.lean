/- Contracts of layer 1's small functions and of their references. -/
import Derived.Test.YtgpdkidbmfngmaaRows
import Derived.Test.YtgpdkidbmfngmaaCentsMath
import Derived.WalkKit
import Derived.WalkSpells
import Derived.WalkLawsBesides
import Derived.IntWalk
import Derived.Lib.Hide
namespace Go.Proofs.Ytgpdkidbmfngmaa
open Go.RowKit

theorem fits_any (n : Int) (w : World) :
    Calls Try.prog 20 #[.int .i64 n] w fun e w' => e = .returned (.bool (CM.fits n)) ∧ w = w' := by
  by_cases h1 : -1152921504606846976 ≤ n
  · by_cases h2 : n ≤ 1152921504606846976
    · have h : CM.fits n = true := CM.fits_true.2 ⟨h1, h2⟩
      rw [h]; clear h
      go_enter Try.func20, Try.ntmps20
      go_wp2
      go_ret
      exact ⟨rfl, rfl⟩
    · have h : CM.fits n = false := CM.fits_false.2 (by omega)
      rw [h]; clear h
      go_enter Try.func20, Try.ntmps20
      go_wp2
      go_ret
      exact ⟨rfl, rfl⟩
  · have h : CM.fits n = false := CM.fits_false.2 (by omega)
    rw [h]; clear h
    go_enter Try.func20, Try.ntmps20
    go_wp2
    go_ret
    exact ⟨rfl, rfl⟩

theorem rfits_any (n : Int) (w : World) :
    Calls Try.prog 21 #[.int .i64 n] w fun e w' => e = .returned (.bool (CM.fits n)) ∧ w = w' := by
  by_cases h1 : -1152921504606846976 ≤ n
  · by_cases h2 : n ≤ 1152921504606846976
    · have h : CM.fits n = true := CM.fits_true.2 ⟨h1, h2⟩
      rw [h]; clear h
      go_enter Try.func21, Try.ntmps21
      go_wp2
      go_ret
      exact ⟨rfl, rfl⟩
    · have h : CM.fits n = false := CM.fits_false.2 (by omega)
      rw [h]; clear h
      go_enter Try.func21, Try.ntmps21
      go_wp2
      go_ret
      exact ⟨rfl, rfl⟩
  · have h : CM.fits n = false := CM.fits_false.2 (by omega)
    rw [h]; clear h
    go_enter Try.func21, Try.ntmps21
    go_wp2
    go_ret
    exact ⟨rfl, rfl⟩

theorem fitting_any (n : Int) (w : World) :
    Calls Try.prog 45 #[.int .i64 n] w fun e w' => e = .returned (.tuple #[.int .i64 (CM.fitN n), .int .i64 (CM.fitE n)]) ∧ w = w' := by
  cases h : CM.fits n
  · have hn : CM.fitN n = 0 := by simp [CM.fitN, h]
    have he : CM.fitE n = 3 := by simp [CM.fitE, h]
    rw [hn, he]; clear hn he
    go_enter Try.func45, Try.ntmps45
    go_wp2_with (go_at_call 20; refine (fits_any _ _).mono ?_; rintro e w' ⟨rfl, rfl⟩)
    go_ret2
    exact ⟨rfl, rfl⟩
  · have hn : CM.fitN n = n := by simp [CM.fitN, h]
    have he : CM.fitE n = 0 := by simp [CM.fitE, h]
    rw [hn, he]; clear hn he
    go_enter Try.func45, Try.ntmps45
    go_wp2_with (go_at_call 20; refine (fits_any _ _).mono ?_; rintro e w' ⟨rfl, rfl⟩)
    go_ret2
    exact ⟨rfl, rfl⟩

theorem add_any (a b : Int) (w : World) :
    Calls Try.prog 14 #[.int .i64 a, .int .i64 b] w fun e w' => e = .returned (.tuple #[.int .i64 (CM.addN a b), .int .i64 (CM.addE a b)]) ∧ w = w' := by
  cases ha : CM.fits a
  · have hn : CM.addN a b = 0 := by simp [CM.addN, ha]
    have he : CM.addE a b = 2 := by simp [CM.addE, ha]
    rw [hn, he]; clear hn he
    go_enter Try.func14, Try.ntmps14
    go_wp2_with (go_at_call 20; refine (fits_any _ _).mono ?_; rintro e w' ⟨rfl, rfl⟩)
    go_ret2
    exact ⟨rfl, rfl⟩
  · cases hb : CM.fits b
    · have hn : CM.addN a b = 0 := by simp [CM.addN, hb]
      have he : CM.addE a b = 2 := by simp [CM.addE, hb]
      rw [hn, he]; clear hn he
      go_enter Try.func14, Try.ntmps14
      go_wp2_with (go_at_call 20; refine (fits_any _ _).mono ?_; rintro e w' ⟨rfl, rfl⟩)
      go_ret2
      exact ⟨rfl, rfl⟩
    · have hn : CM.addN a b = CM.fitN (a + b) := by simp [CM.addN, ha, hb]
      have he : CM.addE a b = CM.fitE (a + b) := by simp [CM.addE, ha, hb]
      rw [hn, he]; clear hn he
      obtain ⟨a1, a2⟩ := CM.fits_true.1 ha
      obtain ⟨b1, b2⟩ := CM.fits_true.1 hb
      go_enter Try.func14, Try.ntmps14
      go_wp2_with (first
        | (go_at_call 20; refine (fits_any _ _).mono ?_; rintro e w' ⟨rfl, rfl⟩)
        | (go_at_call 45; refine (fitting_any _ _).mono ?_; rintro e w' ⟨rfl, rfl⟩))
      go_ret2
      exact ⟨rfl, rfl⟩

theorem sub_any (a b : Int) (w : World) :
    Calls Try.prog 16 #[.int .i64 a, .int .i64 b] w fun e w' => e = .returned (.tuple #[.int .i64 (CM.subN a b), .int .i64 (CM.subE a b)]) ∧ w = w' := by
  cases ha : CM.fits a
  · have hn : CM.subN a b = 0 := by simp [CM.subN, ha]
    have he : CM.subE a b = 2 := by simp [CM.subE, ha]
    rw [hn, he]; clear hn he
    go_enter Try.func16, Try.ntmps16
    go_wp2_with (go_at_call 20; refine (fits_any _ _).mono ?_; rintro e w' ⟨rfl, rfl⟩)
    go_ret2
    exact ⟨rfl, rfl⟩
  · cases hb : CM.fits b
    · have hn : CM.subN a b = 0 := by simp [CM.subN, hb]
      have he : CM.subE a b = 2 := by simp [CM.subE, hb]
      rw [hn, he]; clear hn he
      go_enter Try.func16, Try.ntmps16
      go_wp2_with (go_at_call 20; refine (fits_any _ _).mono ?_; rintro e w' ⟨rfl, rfl⟩)
      go_ret2
      exact ⟨rfl, rfl⟩
    · have hn : CM.subN a b = CM.fitN (a - b) := by simp [CM.subN, ha, hb]
      have he : CM.subE a b = CM.fitE (a - b) := by simp [CM.subE, ha, hb]
      rw [hn, he]; clear hn he
      obtain ⟨a1, a2⟩ := CM.fits_true.1 ha
      obtain ⟨b1, b2⟩ := CM.fits_true.1 hb
      go_enter Try.func16, Try.ntmps16
      go_wp2_with (first
        | (go_at_call 20; refine (fits_any _ _).mono ?_; rintro e w' ⟨rfl, rfl⟩)
        | (go_at_call 45; refine (fitting_any _ _).mono ?_; rintro e w' ⟨rfl, rfl⟩))
      go_ret2
      exact ⟨rfl, rfl⟩

theorem radd_any (a b : Int) (w : World) :
    Calls Try.prog 15 #[.int .i64 a, .int .i64 b] w fun e w' => e = .returned (.tuple #[.int .i64 (CM.addN a b), .int .i64 (CM.addE a b)]) ∧ w = w' := by
  cases ha : CM.fits a
  · have hn : CM.addN a b = 0 := by simp [CM.addN, ha]
    have he : CM.addE a b = 2 := by simp [CM.addE, ha]
    rw [hn, he]; clear hn he
    go_enter Try.func15, Try.ntmps15
    go_wp2_with (go_at_call 21; refine (rfits_any _ _).mono ?_; rintro e w' ⟨rfl, rfl⟩)
    go_ret2
    exact ⟨rfl, rfl⟩
  · cases hb : CM.fits b
    · have hn : CM.addN a b = 0 := by simp [CM.addN, hb]
      have he : CM.addE a b = 2 := by simp [CM.addE, hb]
      rw [hn, he]; clear hn he
      go_enter Try.func15, Try.ntmps15
      go_wp2_with (go_at_call 21; refine (rfits_any _ _).mono ?_; rintro e w' ⟨rfl, rfl⟩)
      go_ret2
      exact ⟨rfl, rfl⟩
    · obtain ⟨a1, a2⟩ := CM.fits_true.1 ha
      obtain ⟨b1, b2⟩ := CM.fits_true.1 hb
      cases hc : CM.fits (a + b)
      · have hn : CM.addN a b = 0 := by simp [CM.addN, CM.fitN, ha, hb, hc]
        have he : CM.addE a b = 3 := by simp [CM.addE, CM.fitE, ha, hb, hc]
        rw [hn, he]; clear hn he
        go_enter Try.func15, Try.ntmps15
        go_wp2_with (go_at_call 21; refine (rfits_any _ _).mono ?_; rintro e w' ⟨rfl, rfl⟩)
        go_ret2
        exact ⟨rfl, rfl⟩
      · have hn : CM.addN a b = a + b := by simp [CM.addN, CM.fitN, ha, hb, hc]
        have he : CM.addE a b = 0 := by simp [CM.addE, CM.fitE, ha, hb, hc]
        rw [hn, he]; clear hn he
        go_enter Try.func15, Try.ntmps15
        go_wp2_with (go_at_call 21; refine (rfits_any _ _).mono ?_; rintro e w' ⟨rfl, rfl⟩)
        go_ret2
        exact ⟨rfl, rfl⟩

theorem rsub_any (a b : Int) (w : World) :
    Calls Try.prog 17 #[.int .i64 a, .int .i64 b] w fun e w' => e = .returned (.tuple #[.int .i64 (CM.subN a b), .int .i64 (CM.subE a b)]) ∧ w = w' := by
  cases ha : CM.fits a
  · have hn : CM.subN a b = 0 := by simp [CM.subN, ha]
    have he : CM.subE a b = 2 := by simp [CM.subE, ha]
    rw [hn, he]; clear hn he
    go_enter Try.func17, Try.ntmps17
    go_wp2_with (go_at_call 21; refine (rfits_any _ _).mono ?_; rintro e w' ⟨rfl, rfl⟩)
    go_ret2
    exact ⟨rfl, rfl⟩
  · cases hb : CM.fits b
    · have hn : CM.subN a b = 0 := by simp [CM.subN, hb]
      have he : CM.subE a b = 2 := by simp [CM.subE, hb]
      rw [hn, he]; clear hn he
      go_enter Try.func17, Try.ntmps17
      go_wp2_with (go_at_call 21; refine (rfits_any _ _).mono ?_; rintro e w' ⟨rfl, rfl⟩)
      go_ret2
      exact ⟨rfl, rfl⟩
    · obtain ⟨a1, a2⟩ := CM.fits_true.1 ha
      obtain ⟨b1, b2⟩ := CM.fits_true.1 hb
      have hb' : CM.fits (-b) = true := CM.fits_true.2 (by omega)
      have hn : CM.subN a b = CM.addN a (-b) := by simp [CM.addN, CM.subN, ha, hb, hb', Int.sub_eq_add_neg]
      have he : CM.subE a b = CM.addE a (-b) := by simp [CM.addE, CM.subE, ha, hb, hb', Int.sub_eq_add_neg]
      rw [hn, he]; clear hn he hb'
      go_enter Try.func17, Try.ntmps17
      go_wp2_with (first
        | (go_at_call 21; refine (rfits_any _ _).mono ?_; rintro e w' ⟨rfl, rfl⟩)
        | (go_at_call 15; refine (radd_any _ _ _).mono ?_; rintro e w' ⟨rfl, rfl⟩))
      go_ret2
      exact ⟨rfl, rfl⟩

theorem clamp_any (n low high : Int) (w : World) :
    Calls Try.prog 22 #[.int .i64 n, .int .i64 low, .int .i64 high] w fun e w' => e = .returned (.int .i64 (CM.clamp n low high)) ∧ w = w' := by
  by_cases h1 : n < low
  · have h : CM.clamp n low high = low := by simp [CM.clamp, h1]
    rw [h]; clear h
    go_enter Try.func22, Try.ntmps22
    go_wp2
    go_ret
    exact ⟨rfl, rfl⟩
  · by_cases h2 : high < low
    · have h : CM.clamp n low high = low := by simp [CM.clamp, h2]
      rw [h]; clear h
      go_enter Try.func22, Try.ntmps22
      go_wp2
      go_ret
      exact ⟨rfl, rfl⟩
    · by_cases h3 : high < n
      · have h : CM.clamp n low high = high := by simp [CM.clamp, h1, h2, h3]
        rw [h]; clear h
        go_enter Try.func22, Try.ntmps22
        go_wp2
        go_ret
        exact ⟨rfl, rfl⟩
      · have h : CM.clamp n low high = n := by simp [CM.clamp, h1, h2, h3]
        rw [h]; clear h
        go_enter Try.func22, Try.ntmps22
        go_wp2
        go_ret
        exact ⟨rfl, rfl⟩

theorem rclamp_any (n low high : Int) (w : World) :
    Calls Try.prog 23 #[.int .i64 n, .int .i64 low, .int .i64 high] w fun e w' => e = .returned (.int .i64 (CM.clamp n low high)) ∧ w = w' := by
  by_cases h2 : high < low
  · have h : CM.clamp n low high = low := by simp [CM.clamp, h2]
    rw [h]; clear h
    go_enter Try.func23, Try.ntmps23
    go_wp2
    go_ret
    exact ⟨rfl, rfl⟩
  · by_cases h1 : n < low
    · have h : CM.clamp n low high = low := by simp [CM.clamp, h1]
      rw [h]; clear h
      go_enter Try.func23, Try.ntmps23
      go_wp2
      go_ret
      exact ⟨rfl, rfl⟩
    · by_cases h3 : high < n
      · have h : CM.clamp n low high = high := by simp [CM.clamp, h1, h2, h3]
        rw [h]; clear h
        go_enter Try.func23, Try.ntmps23
        go_wp2
        go_ret
        exact ⟨rfl, rfl⟩
      · have h : CM.clamp n low high = n := by simp [CM.clamp, h1, h2, h3]
        rw [h]; clear h
        go_enter Try.func23, Try.ntmps23
        go_wp2
        go_ret
        exact ⟨rfl, rfl⟩

theorem size_any (n : Int) (w : World) (h1 : -1152921504606846976 ≤ n) (h2 : n ≤ 1152921504606846976) :
    Calls Try.prog 48 #[.int .i64 n] w fun e w' => e = .returned (.int .i64 (CM.size n)) ∧ w = w' := by
  by_cases h : n < 0
  · have hs : CM.size n = -n := by simp [CM.size, h]
    rw [hs]; clear hs
    go_enter Try.func48, Try.ntmps48
    go_wp2
    go_ret
    exact ⟨rfl, rfl⟩
  · have hs : CM.size n = n := by simp [CM.size, h]
    rw [hs]; clear hs
    go_enter Try.func48, Try.ntmps48
    go_wp2
    go_ret
    exact ⟨rfl, rfl⟩

theorem rsize_any (n : Int) (w : World) (h1 : -1152921504606846976 ≤ n) (h2 : n ≤ 1152921504606846976) :
    Calls Try.prog 46 #[.int .i64 n] w fun e w' => e = .returned (.int .i64 (CM.size n)) ∧ w = w' := by
  by_cases h : n < 0
  · have hs : CM.size n = -n := by simp [CM.size, h]
    rw [hs]; clear hs
    go_enter Try.func46, Try.ntmps46
    go_wp2
    go_ret
    exact ⟨rfl, rfl⟩
  · have hs : CM.size n = n := by simp [CM.size, h]
    rw [hs]; clear hs
    go_enter Try.func46, Try.ntmps46
    go_wp2
    go_ret
    exact ⟨rfl, rfl⟩
end Go.Proofs.Ytgpdkidbmfngmaa
