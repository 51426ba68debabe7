import Derived.Test.YtgpdkidbmfngmaaCentsD
import Derived.Test.YtgpdkidbmfngmaaCentsMul
namespace Go.Proofs.Ytgpdkidbmfngmaa
open Go.RowKit

theorem mul_any (a b : Int) (w : World) :
    Calls Try.prog 18 #[.int .i64 a, .int .i64 b] w fun e w' => e = .returned (.tuple #[.int .i64 (CM.mdN a b 1 1), .int .i64 (CM.mdE a b 1 1)]) ∧ Below w.heap.size w w' := by
  go_enter Try.func18, Try.ntmps18
  go_wp2_with (go_at_call 27; refine (muldiv_any _ _ _ _ _).mono ?_; rintro e w' ⟨rfl, hb⟩)
  go_ret2
  exact ⟨rfl, hb⟩

theorem rmul_any (a b : Int) (w : World) :
    Calls Try.prog 19 #[.int .i64 a, .int .i64 b] w fun e w' => e = .returned (.tuple #[.int .i64 (CM.mdN a b 1 1), .int .i64 (CM.mdE a b 1 1)]) ∧ w = w' := by
  cases ha : CM.fits a
  · obtain ⟨e1, e2⟩ := @CM.mul_arg a b (.inl ha)
    rw [e1, e2]; clear e1 e2
    go_enter Try.func19, Try.ntmps19
    go_wp2_with (go_at_call 21; refine (rfits_any _ _).mono ?_; rintro e w' ⟨rfl, rfl⟩)
    go_ret2
    exact ⟨rfl, rfl⟩
  · cases hb : CM.fits b
    · obtain ⟨e1, e2⟩ := @CM.mul_arg a b (.inr hb)
      rw [e1, e2]; clear e1 e2
      go_enter Try.func19, Try.ntmps19
      go_wp2_with (go_at_call 21; refine (rfits_any _ _).mono ?_; rintro e w' ⟨rfl, rfl⟩)
      go_ret2
      exact ⟨rfl, rfl⟩
    · obtain ⟨a1, a2⟩ := CM.fits_true.1 ha
      obtain ⟨b1, b2⟩ := CM.fits_true.1 hb
      obtain ⟨f1, f2⟩ := CM.mul_spec ha hb
      by_cases hz : a = 0
      · subst hz
        obtain ⟨e1, e2⟩ := f1 (by simp [CM.size])
        rw [e1, e2, Int.zero_mul]; clear e1 e2 f1 f2
        go_enter Try.func19, Try.ntmps19
        go_wp2_with (go_at_call 21; refine (rfits_any _ _).mono ?_; rintro e w' ⟨rfl, rfl⟩)
        go_ret2
        exact ⟨rfl, rfl⟩
      · have sp := CM.size_pos hz
        have hz1 : (a != 0) = true := by simpa using hz
        have sa1 := CM.size_le a1 a2
        have sb0 := CM.size_nonneg b
        have sb1 := CM.size_le b1 b2
        have d0 : 0 ≤ 1152921504606846976 / CM.size a := Int.ediv_nonneg (by omega) (by omega)
        by_cases ho : 1152921504606846976 / CM.size a < CM.size b
        · obtain ⟨e1, e2⟩ := f2 ((CM.over_iff hz).1 ho)
          rw [e1, e2]; clear e1 e2 f1 f2 hz
          go_enter Try.func19, Try.ntmps19
          go_wp2_with (first
            | (go_at_call 21; refine (rfits_any _ _).mono ?_; rintro e w' ⟨rfl, rfl⟩)
            | (go_at_call 46; refine (rsize_any _ _ (by assumption) (by assumption)).mono ?_; rintro e w' ⟨rfl, rfl⟩))
          go_ret2
          exact ⟨rfl, rfl⟩
        · have hle : CM.size a * CM.size b ≤ 1152921504606846976 := by
            have := (not_congr (@CM.over_iff a b hz)).1 ho
            omega
          obtain ⟨e1, e2⟩ := f1 hle
          obtain ⟨m1, m2⟩ := CM.mul_in hle
          have ew : wrap64 (a * b) = a * b := IntWalk.wrap64_in _ (by omega)
          rw [e1, e2]; clear e1 e2 f1 f2 hz hle
          go_enter Try.func19, Try.ntmps19
          go_wp2_with (first
            | (go_at_call 21; refine (rfits_any _ _).mono ?_; rintro e w' ⟨rfl, rfl⟩)
            | (go_at_call 46; refine (rsize_any _ _ (by assumption) (by assumption)).mono ?_; rintro e w' ⟨rfl, rfl⟩))
          go_ret2
          exact ⟨rfl, rfl⟩
end Go.Proofs.Ytgpdkidbmfngmaa
