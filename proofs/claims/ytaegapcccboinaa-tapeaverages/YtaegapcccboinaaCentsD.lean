import Derived.Test.YtaegapcccboinaaCentsC
import Derived.Test.YtaegapcccboinaaCentsDiv2
namespace Go.Proofs.Ytaegapcccboinaa
open Go.RowKit

set_option maxHeartbeats 1000000 in
theorem raway_any (mode q r d : Int) (n : Bool) (w : World) (hm1 : 1 ≤ mode) (hm5 : mode ≤ 5)
    (hr0 : 0 < r) (hr : r < d) (hd : d ≤ 1152921504606846976) (hq : 0 ≤ q) :
    Calls Try.prog 79 #[.int .i64 q, .int .i64 r, .int .i64 d, .int .i64 mode, .bool n] w fun e w' =>
      e = .returned (.bool (CM.grow q r d mode n)) ∧ w = w' := by
  have hz : ¬ r = 0 := by omega
  have hm : mode = 1 ∨ mode = 2 ∨ mode = 3 ∨ mode = 4 ∨ mode = 5 := by omega
  rcases hm with rfl | rfl | rfl | rfl | rfl
  · have hg : CM.grow q r d 1 n = false := by simp [CM.grow]
    rw [hg]; clear hg hz
    go_enter Try.func79, Try.ntmps79
    go_wp2
    go_ret
    exact ⟨rfl, rfl⟩
  · have hg : CM.grow q r d 2 n = true := by simp [CM.grow, hz]
    rw [hg]; clear hg hz
    go_enter Try.func79, Try.ntmps79
    go_wp2
    go_ret
    exact ⟨rfl, rfl⟩
  · have hg : CM.grow q r d 3 n = n := by simp [CM.grow, hz]
    rw [hg]; clear hg hz
    go_enter Try.func79, Try.ntmps79
    go_wp2
    go_ret
    exact ⟨rfl, rfl⟩
  · have hg : CM.grow q r d 4 n = !n := by simp [CM.grow, hz]
    rw [hg]; clear hg hz
    go_enter Try.func79, Try.ntmps79
    go_wp2
    go_ret
    exact ⟨rfl, rfl⟩
  · by_cases g1 : d - r < r
    · have hg : CM.grow q r d 5 n = true := by simp [CM.grow, hz, show d < 2 * r by omega]
      rw [hg]; clear hg hz
      go_enter Try.func79, Try.ntmps79
      go_wp2
      go_ret
      exact ⟨rfl, rfl⟩
    · by_cases g2 : r = d - r
      · have g2' : (r == d - r) = true := by simpa using g2
        have e1 : 2 * r = d := by omega
        have e2 : ¬ d < 2 * r := by omega
        cases g3 : decide (q % 2 = 1)
        · have hg : CM.grow q r d 5 n = false := by simpa [CM.grow, hz, e1, e2] using g3
          rw [hg]; clear hg hz e1 e2 g2
          have g3' : (q % 2 == 1) = false := by simpa using g3
          clear g3
          go_enter Try.func79, Try.ntmps79
          go_wp2
          go_ret
          exact ⟨rfl, rfl⟩
        · have hg : CM.grow q r d 5 n = true := by simpa [CM.grow, hz, e1, e2] using g3
          rw [hg]; clear hg hz e1 e2 g2
          have g3' : (q % 2 == 1) = true := by simpa using g3
          clear g3
          go_enter Try.func79, Try.ntmps79
          go_wp2
          go_ret
          exact ⟨rfl, rfl⟩
      · have e1 : ¬ 2 * r = d := by omega
        have e2 : ¬ d < 2 * r := by omega
        have hg : CM.grow q r d 5 n = false := by simp [CM.grow, hz, e1, e2]
        rw [hg]; clear hg hz e1 e2
        have g2' : (r == d - r) = false := by simpa using g2
        clear g2
        go_enter Try.func79, Try.ntmps79
        go_wp2
        go_ret
        exact ⟨rfl, rfl⟩

theorem rmuldiv_arg (a b c mode : Int) (w : World) (h : CM.mdA a b c mode = false) :
    Calls Try.prog 41 #[.int .i64 a, .int .i64 b, .int .i64 c, .int .i64 mode] w fun e w' => e = .returned (.tuple #[.int .i64 0, .int .i64 2]) ∧ w = w' := by
  cases ha : CM.fits a
  · clear h
    go_enter Try.func41, Try.ntmps41
    go_wp2_with (go_at_call 76; refine (rfits_any _ _).mono ?_; rintro e w' ⟨rfl, rfl⟩)
    go_ret2
    exact ⟨rfl, rfl⟩
  · cases hb : CM.fits b
    · clear h
      go_enter Try.func41, Try.ntmps41
      go_wp2_with (go_at_call 76; refine (rfits_any _ _).mono ?_; rintro e w' ⟨rfl, rfl⟩)
      go_ret2
      exact ⟨rfl, rfl⟩
    · cases hc : CM.fits c
      · clear h
        go_enter Try.func41, Try.ntmps41
        go_wp2_with (go_at_call 76; refine (rfits_any _ _).mono ?_; rintro e w' ⟨rfl, rfl⟩)
        go_ret2
        exact ⟨rfl, rfl⟩
      · simp [CM.mdA, ha, hb, hc] at h
        by_cases hm : mode < 1
        · clear h
          go_enter Try.func41, Try.ntmps41
          go_wp2_with (go_at_call 76; refine (rfits_any _ _).mono ?_; rintro e w' ⟨rfl, rfl⟩)
          go_ret2
          exact ⟨rfl, rfl⟩
        · have hm5 : 5 < mode := by omega
          clear h
          go_enter Try.func41, Try.ntmps41
          go_wp2_with (go_at_call 76; refine (rfits_any _ _).mono ?_; rintro e w' ⟨rfl, rfl⟩)
          go_ret2
          exact ⟨rfl, rfl⟩

theorem rmuldiv_zero (a b mode : Int) (w : World) (h : CM.mdA a b 0 mode = true) :
    Calls Try.prog 41 #[.int .i64 a, .int .i64 b, .int .i64 0, .int .i64 mode] w fun e w' => e = .returned (.tuple #[.int .i64 0, .int .i64 4]) ∧ w = w' := by
  obtain ⟨ha, hb, hc, h1, h5⟩ := mdA_parts h
  clear h
  go_enter Try.func41, Try.ntmps41
  go_wp2_with (go_at_call 76; refine (rfits_any _ _).mono ?_; rintro e w' ⟨rfl, rfl⟩)
  go_ret2
  exact ⟨rfl, rfl⟩

set_option maxHeartbeats 2000000 in
theorem rmuldiv_in (a b c mode : Int) (w : World) (h : CM.mdA a b c mode = true) (hc0 : (c == 0) = false) :
    Calls Try.prog 41 #[.int .i64 a, .int .i64 b, .int .i64 c, .int .i64 mode] w fun e w' => e = .returned (.tuple #[.int .i64 (CM.mdN a b c mode), .int .i64 (CM.mdE a b c mode)]) ∧ w = w' := by
  have hcn : c ≠ 0 := by simpa using hc0
  obtain ⟨f1, f2⟩ := CM.md_ref h hcn
  obtain ⟨q0, q1, r0, r1⟩ := CM.ref_bounds a b hcn
  have F1 := Lib.hid f1; have F2 := Lib.hid f2
  obtain ⟨ha, hb, hc, hm1, hm5⟩ := mdA_parts h
  clear h f1 f2
  obtain ⟨a1, a2⟩ := CM.fits_true.1 ha
  obtain ⟨b1, b2⟩ := CM.fits_true.1 hb
  obtain ⟨c1, c2⟩ := CM.fits_true.1 hc
  have sa0 := CM.size_nonneg a
  have sa1 := CM.size_le a1 a2
  have sb0 := CM.size_nonneg b
  have sb1 := CM.size_le b1 b2
  have sc0 : 0 < CM.size c := CM.size_pos hcn
  have sc1 := CM.size_le c1 c2
  clear hcn
  have hneg : (!((!(decide (a < 0) == decide (b < 0))) == decide (c < 0))) = CM.neg a b c := rfl
  generalize hq : CM.rq (CM.size a).toNat (CM.size b).toNat (CM.size c).toNat = q at *
  generalize hr : CM.rr (CM.size a).toNat (CM.size b).toNat (CM.size c).toNat = r at *
  by_cases hr0 : 0 < r
  · cases hn : CM.neg a b c
    · rw [hn] at hneg F1 F2
      clear hn
      cases hg : CM.grow q r (CM.size c) mode false
      · rw [hg] at F1 F2
        simp only [if_false, Bool.false_eq_true, Int.add_zero] at F1 F2
        by_cases ho : 1152921504606846976 < q
        · have HE := Lib.hid (F1.out ho)
          clear F1 F2
          go_enter Try.func41, Try.ntmps41
          go_wp2_with (first
            | (go_at_call 76; refine (rfits_any _ _).mono ?_; rintro e w' ⟨rfl, rfl⟩)
            | (go_at_call 78; refine (rsize_any _ _ (by assumption) (by assumption)).mono ?_; rintro e w' ⟨rfl, rfl⟩)
            | (go_at_call 77; refine (rquotient_any _ _ _ _ (by assumption) (by assumption) (by assumption) (by assumption) (by assumption) (by assumption)).mono ?_; rintro e w' ⟨rfl, rfl⟩)
            | (go_at_call 79; refine (raway_any _ _ _ _ _ _ (by assumption) (by assumption) (by assumption) (by assumption) (by assumption) (by assumption)).mono ?_; rintro e w' ⟨rfl, rfl⟩))
          go_ret2
          exact ⟨by rw [HE.out.1, HE.out.2]; rfl, rfl⟩
        · have HE := Lib.hid (F2.out (by omega))
          clear F1 F2
          go_enter Try.func41, Try.ntmps41
          go_wp2_with (first
            | (go_at_call 76; refine (rfits_any _ _).mono ?_; rintro e w' ⟨rfl, rfl⟩)
            | (go_at_call 78; refine (rsize_any _ _ (by assumption) (by assumption)).mono ?_; rintro e w' ⟨rfl, rfl⟩)
            | (go_at_call 77; refine (rquotient_any _ _ _ _ (by assumption) (by assumption) (by assumption) (by assumption) (by assumption) (by assumption)).mono ?_; rintro e w' ⟨rfl, rfl⟩)
            | (go_at_call 79; refine (raway_any _ _ _ _ _ _ (by assumption) (by assumption) (by assumption) (by assumption) (by assumption) (by assumption)).mono ?_; rintro e w' ⟨rfl, rfl⟩))
          go_ret2
          exact ⟨by rw [HE.out.1, HE.out.2]; rfl, rfl⟩
      · rw [hg] at F1 F2
        simp only [if_true, if_false, Bool.false_eq_true] at F1 F2
        by_cases ho : 1152921504606846976 < q + 1
        · have HE := Lib.hid (F1.out ho)
          clear F1 F2
          go_enter Try.func41, Try.ntmps41
          go_wp2_with (first
            | (go_at_call 76; refine (rfits_any _ _).mono ?_; rintro e w' ⟨rfl, rfl⟩)
            | (go_at_call 78; refine (rsize_any _ _ (by assumption) (by assumption)).mono ?_; rintro e w' ⟨rfl, rfl⟩)
            | (go_at_call 77; refine (rquotient_any _ _ _ _ (by assumption) (by assumption) (by assumption) (by assumption) (by assumption) (by assumption)).mono ?_; rintro e w' ⟨rfl, rfl⟩)
            | (go_at_call 79; refine (raway_any _ _ _ _ _ _ (by assumption) (by assumption) (by assumption) (by assumption) (by assumption) (by assumption)).mono ?_; rintro e w' ⟨rfl, rfl⟩))
          go_ret2
          exact ⟨by rw [HE.out.1, HE.out.2]; rfl, rfl⟩
        · have HE := Lib.hid (F2.out (by omega))
          clear F1 F2
          go_enter Try.func41, Try.ntmps41
          go_wp2_with (first
            | (go_at_call 76; refine (rfits_any _ _).mono ?_; rintro e w' ⟨rfl, rfl⟩)
            | (go_at_call 78; refine (rsize_any _ _ (by assumption) (by assumption)).mono ?_; rintro e w' ⟨rfl, rfl⟩)
            | (go_at_call 77; refine (rquotient_any _ _ _ _ (by assumption) (by assumption) (by assumption) (by assumption) (by assumption) (by assumption)).mono ?_; rintro e w' ⟨rfl, rfl⟩)
            | (go_at_call 79; refine (raway_any _ _ _ _ _ _ (by assumption) (by assumption) (by assumption) (by assumption) (by assumption) (by assumption)).mono ?_; rintro e w' ⟨rfl, rfl⟩))
          go_ret2
          exact ⟨by rw [HE.out.1, HE.out.2]; rfl, rfl⟩
    · rw [hn] at hneg F1 F2
      clear hn
      cases hg : CM.grow q r (CM.size c) mode true
      · rw [hg] at F1 F2
        simp only [if_true, if_false, Bool.false_eq_true, Int.add_zero] at F1 F2
        by_cases ho : 1152921504606846976 < q
        · have HE := Lib.hid (F1.out ho)
          clear F1 F2
          go_enter Try.func41, Try.ntmps41
          go_wp2_with (first
            | (go_at_call 76; refine (rfits_any _ _).mono ?_; rintro e w' ⟨rfl, rfl⟩)
            | (go_at_call 78; refine (rsize_any _ _ (by assumption) (by assumption)).mono ?_; rintro e w' ⟨rfl, rfl⟩)
            | (go_at_call 77; refine (rquotient_any _ _ _ _ (by assumption) (by assumption) (by assumption) (by assumption) (by assumption) (by assumption)).mono ?_; rintro e w' ⟨rfl, rfl⟩)
            | (go_at_call 79; refine (raway_any _ _ _ _ _ _ (by assumption) (by assumption) (by assumption) (by assumption) (by assumption) (by assumption)).mono ?_; rintro e w' ⟨rfl, rfl⟩))
          go_ret2
          exact ⟨by rw [HE.out.1, HE.out.2]; rfl, rfl⟩
        · have HE := Lib.hid (F2.out (by omega))
          clear F1 F2
          go_enter Try.func41, Try.ntmps41
          go_wp2_with (first
            | (go_at_call 76; refine (rfits_any _ _).mono ?_; rintro e w' ⟨rfl, rfl⟩)
            | (go_at_call 78; refine (rsize_any _ _ (by assumption) (by assumption)).mono ?_; rintro e w' ⟨rfl, rfl⟩)
            | (go_at_call 77; refine (rquotient_any _ _ _ _ (by assumption) (by assumption) (by assumption) (by assumption) (by assumption) (by assumption)).mono ?_; rintro e w' ⟨rfl, rfl⟩)
            | (go_at_call 79; refine (raway_any _ _ _ _ _ _ (by assumption) (by assumption) (by assumption) (by assumption) (by assumption) (by assumption)).mono ?_; rintro e w' ⟨rfl, rfl⟩))
          go_ret2
          exact ⟨by rw [HE.out.1, HE.out.2]; rfl, rfl⟩
      · rw [hg] at F1 F2
        simp only [if_true] at F1 F2
        by_cases ho : 1152921504606846976 < q + 1
        · have HE := Lib.hid (F1.out ho)
          clear F1 F2
          go_enter Try.func41, Try.ntmps41
          go_wp2_with (first
            | (go_at_call 76; refine (rfits_any _ _).mono ?_; rintro e w' ⟨rfl, rfl⟩)
            | (go_at_call 78; refine (rsize_any _ _ (by assumption) (by assumption)).mono ?_; rintro e w' ⟨rfl, rfl⟩)
            | (go_at_call 77; refine (rquotient_any _ _ _ _ (by assumption) (by assumption) (by assumption) (by assumption) (by assumption) (by assumption)).mono ?_; rintro e w' ⟨rfl, rfl⟩)
            | (go_at_call 79; refine (raway_any _ _ _ _ _ _ (by assumption) (by assumption) (by assumption) (by assumption) (by assumption) (by assumption)).mono ?_; rintro e w' ⟨rfl, rfl⟩))
          go_ret2
          exact ⟨by rw [HE.out.1, HE.out.2]; rfl, rfl⟩
        · have HE := Lib.hid (F2.out (by omega))
          clear F1 F2
          go_enter Try.func41, Try.ntmps41
          go_wp2_with (first
            | (go_at_call 76; refine (rfits_any _ _).mono ?_; rintro e w' ⟨rfl, rfl⟩)
            | (go_at_call 78; refine (rsize_any _ _ (by assumption) (by assumption)).mono ?_; rintro e w' ⟨rfl, rfl⟩)
            | (go_at_call 77; refine (rquotient_any _ _ _ _ (by assumption) (by assumption) (by assumption) (by assumption) (by assumption) (by assumption)).mono ?_; rintro e w' ⟨rfl, rfl⟩)
            | (go_at_call 79; refine (raway_any _ _ _ _ _ _ (by assumption) (by assumption) (by assumption) (by assumption) (by assumption) (by assumption)).mono ?_; rintro e w' ⟨rfl, rfl⟩))
          go_ret2
          exact ⟨by rw [HE.out.1, HE.out.2]; rfl, rfl⟩
  · have hg : ∀ n, CM.grow q r (CM.size c) mode n = false := fun n => by simp [CM.grow, show r = 0 by omega]
    rw [hg] at F1 F2
    clear hg
    simp only [if_false, Bool.false_eq_true, Int.add_zero] at F1 F2
    cases hn : CM.neg a b c
    · rw [hn] at hneg F2
      clear hn
      simp only [if_false, Bool.false_eq_true] at F2
      by_cases ho : 1152921504606846976 < q
      · have HE := Lib.hid (F1.out ho)
        clear F1 F2
        go_enter Try.func41, Try.ntmps41
        go_wp2_with (first
          | (go_at_call 76; refine (rfits_any _ _).mono ?_; rintro e w' ⟨rfl, rfl⟩)
          | (go_at_call 78; refine (rsize_any _ _ (by assumption) (by assumption)).mono ?_; rintro e w' ⟨rfl, rfl⟩)
          | (go_at_call 77; refine (rquotient_any _ _ _ _ (by assumption) (by assumption) (by assumption) (by assumption) (by assumption) (by assumption)).mono ?_; rintro e w' ⟨rfl, rfl⟩)
          | (go_at_call 79; refine (raway_any _ _ _ _ _ _ (by assumption) (by assumption) (by assumption) (by assumption) (by assumption) (by assumption)).mono ?_; rintro e w' ⟨rfl, rfl⟩))
        go_ret2
        exact ⟨by rw [HE.out.1, HE.out.2]; rfl, rfl⟩
      · have HE := Lib.hid (F2.out (by omega))
        clear F1 F2
        go_enter Try.func41, Try.ntmps41
        go_wp2_with (first
          | (go_at_call 76; refine (rfits_any _ _).mono ?_; rintro e w' ⟨rfl, rfl⟩)
          | (go_at_call 78; refine (rsize_any _ _ (by assumption) (by assumption)).mono ?_; rintro e w' ⟨rfl, rfl⟩)
          | (go_at_call 77; refine (rquotient_any _ _ _ _ (by assumption) (by assumption) (by assumption) (by assumption) (by assumption) (by assumption)).mono ?_; rintro e w' ⟨rfl, rfl⟩)
          | (go_at_call 79; refine (raway_any _ _ _ _ _ _ (by assumption) (by assumption) (by assumption) (by assumption) (by assumption) (by assumption)).mono ?_; rintro e w' ⟨rfl, rfl⟩))
        go_ret2
        exact ⟨by rw [HE.out.1, HE.out.2]; rfl, rfl⟩
    · rw [hn] at hneg F2
      clear hn
      simp only [if_true] at F2
      by_cases ho : 1152921504606846976 < q
      · have HE := Lib.hid (F1.out ho)
        clear F1 F2
        go_enter Try.func41, Try.ntmps41
        go_wp2_with (first
          | (go_at_call 76; refine (rfits_any _ _).mono ?_; rintro e w' ⟨rfl, rfl⟩)
          | (go_at_call 78; refine (rsize_any _ _ (by assumption) (by assumption)).mono ?_; rintro e w' ⟨rfl, rfl⟩)
          | (go_at_call 77; refine (rquotient_any _ _ _ _ (by assumption) (by assumption) (by assumption) (by assumption) (by assumption) (by assumption)).mono ?_; rintro e w' ⟨rfl, rfl⟩)
          | (go_at_call 79; refine (raway_any _ _ _ _ _ _ (by assumption) (by assumption) (by assumption) (by assumption) (by assumption) (by assumption)).mono ?_; rintro e w' ⟨rfl, rfl⟩))
        go_ret2
        exact ⟨by rw [HE.out.1, HE.out.2]; rfl, rfl⟩
      · have HE := Lib.hid (F2.out (by omega))
        clear F1 F2
        go_enter Try.func41, Try.ntmps41
        go_wp2_with (first
          | (go_at_call 76; refine (rfits_any _ _).mono ?_; rintro e w' ⟨rfl, rfl⟩)
          | (go_at_call 78; refine (rsize_any _ _ (by assumption) (by assumption)).mono ?_; rintro e w' ⟨rfl, rfl⟩)
          | (go_at_call 77; refine (rquotient_any _ _ _ _ (by assumption) (by assumption) (by assumption) (by assumption) (by assumption) (by assumption)).mono ?_; rintro e w' ⟨rfl, rfl⟩)
          | (go_at_call 79; refine (raway_any _ _ _ _ _ _ (by assumption) (by assumption) (by assumption) (by assumption) (by assumption) (by assumption)).mono ?_; rintro e w' ⟨rfl, rfl⟩))
        go_ret2
        exact ⟨by rw [HE.out.1, HE.out.2]; rfl, rfl⟩

theorem rmuldiv_any (a b c mode : Int) (w : World) :
    Calls Try.prog 41 #[.int .i64 a, .int .i64 b, .int .i64 c, .int .i64 mode] w fun e w' => e = .returned (.tuple #[.int .i64 (CM.mdN a b c mode), .int .i64 (CM.mdE a b c mode)]) ∧ w = w' := by
  cases h : CM.mdA a b c mode
  · have e1 : CM.mdN a b c mode = 0 := by simp [CM.mdN, h]
    have e2 : CM.mdE a b c mode = 2 := by simp [CM.mdE, h]
    rw [e1, e2]
    exact rmuldiv_arg a b c mode w h
  · by_cases hc : c = 0
    · subst hc
      have e1 : CM.mdN a b 0 mode = 0 := by simp [CM.mdN]
      have e2 : CM.mdE a b 0 mode = 4 := by simp [CM.mdE, h]
      rw [e1, e2]
      exact rmuldiv_zero a b mode w h
    · exact rmuldiv_in a b c mode w h (by simpa using hc)
end Go.Proofs.Ytaegapcccboinaa
