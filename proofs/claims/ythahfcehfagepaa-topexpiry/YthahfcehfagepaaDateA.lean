/- Contracts of layer 5's smallest functions, the program's and the reference's. -/
import Derived.Test.YthahfcehfagepaaTxt
import Derived.Test.YthahfcehfagepaaDateMath4
namespace Go.Proofs.Ythahfcehfagepaa
open Go.RowKit
set_option linter.unusedVariables false

theorem tmod_small (y : Int) (k : Int) (hk : 0 < k) (hk2 : k ≤ 400) : -400 ≤ y.tmod k ∧ y.tmod k ≤ 400 := by
  have h1 := Int.tmod_lt_of_pos y hk
  have h2 : -k < y.tmod k := by
    have := Int.tmod_lt_of_pos (-y) hk
    rw [Int.neg_tmod] at this; omega
  omega

theorem beq0 {x : Int} (h : ¬ x = 0) : (x == 0) = false ∧ (x != 0) = true := by simp [h]
theorem beq1 {x : Int} (h : x = 0) : (x == 0) = true ∧ (x != 0) = false := by simp [h]
theorem bq {a b : Int} (h : ¬ a = b) : (a == b) = false := by simpa using h

theorem leap_any (y : Int) (w : World) :
    Calls Try.prog 17 #[.int .i64 y] w fun e w' => e = .returned (.bool (DM.leap y)) ∧ w = w' := by
  obtain ⟨a1, a2⟩ := tmod_small y 4 (by omega) (by omega)
  obtain ⟨b1, b2⟩ := tmod_small y 100 (by omega) (by omega)
  obtain ⟨c1, c2⟩ := tmod_small y 400 (by omega) (by omega)
  generalize hv : DM.leap y = v
  have HV := Lib.hid hv
  clear hv
  unfold DM.leap at HV
  by_cases h4 : y.tmod 4 = 0
  · by_cases h1 : y.tmod 100 = 0
    · by_cases h400 : y.tmod 400 = 0
      · have HN : Hid (v = true) := Lib.hid (by rw [← HV.out]; simp [h400])
        have d4 := (beq1 h4).1; have d1 := (beq1 h1).2; have d400 := (beq1 h400).1
        clear h4 h1 h400
        go_enter Try.func17, Try.ntmps17
        go_wp2
        go_ret
        exact ⟨by rw [HN.out]; rfl, rfl⟩
      · have HN : Hid (v = false) := Lib.hid (by rw [← HV.out]; simp [h1, h400])
        have d4 := (beq1 h4).1; have d1 := (beq1 h1).2; have d400 := (beq0 h400).1
        clear h4 h1 h400
        go_enter Try.func17, Try.ntmps17
        go_wp2
        go_ret
        exact ⟨by rw [HN.out]; rfl, rfl⟩
    · have HN : Hid (v = true) := Lib.hid (by rw [← HV.out]; simp [h4, h1])
      have d4 := (beq1 h4).1; have d1 := (beq0 h1).2
      clear h4 h1
      go_enter Try.func17, Try.ntmps17
      go_wp2
      go_ret
      exact ⟨by rw [HN.out]; rfl, rfl⟩
  · by_cases h400 : y.tmod 400 = 0
    · have HN : Hid (v = true) := Lib.hid (by rw [← HV.out]; simp [h400])
      have d4 := (beq0 h4).1; have d400 := (beq1 h400).1
      clear h4 h400
      go_enter Try.func17, Try.ntmps17
      go_wp2
      go_ret
      exact ⟨by rw [HN.out]; rfl, rfl⟩
    · have HN : Hid (v = false) := Lib.hid (by rw [← HV.out]; simp [h4, h400])
      have d4 := (beq0 h4).1; have d400 := (beq0 h400).1
      clear h4 h400
      go_enter Try.func17, Try.ntmps17
      go_wp2
      go_ret
      exact ⟨by rw [HN.out]; rfl, rfl⟩

theorem rleap_any (y : Int) (w : World) :
    Calls Try.prog 18 #[.int .i64 y] w fun e w' => e = .returned (.bool (DM.leap y)) ∧ w = w' := by
  obtain ⟨a1, a2⟩ := tmod_small y 4 (by omega) (by omega)
  obtain ⟨b1, b2⟩ := tmod_small y 100 (by omega) (by omega)
  obtain ⟨c1, c2⟩ := tmod_small y 400 (by omega) (by omega)
  generalize hv : DM.leap y = v
  have HV := Lib.hid hv
  clear hv
  unfold DM.leap at HV
  by_cases h4 : y.tmod 4 = 0
  · by_cases h1 : y.tmod 100 = 0
    · by_cases h400 : y.tmod 400 = 0
      · have HN : Hid (v = true) := Lib.hid (by rw [← HV.out]; simp [h400])
        have d4 := (beq1 h4).1; have d1 := (beq1 h1).2; have d400 := (beq1 h400).1
        clear h4 h1 h400
        go_enter Try.func18, Try.ntmps18
        go_wp2
        go_ret
        exact ⟨by rw [HN.out]; rfl, rfl⟩
      · have HN : Hid (v = false) := Lib.hid (by rw [← HV.out]; simp [h1, h400])
        have d4 := (beq1 h4).1; have d1 := (beq1 h1).2; have d400 := (beq0 h400).1
        clear h4 h1 h400
        go_enter Try.func18, Try.ntmps18
        go_wp2
        go_ret
        exact ⟨by rw [HN.out]; rfl, rfl⟩
    · have HN : Hid (v = true) := Lib.hid (by rw [← HV.out]; simp [h4, h1])
      have d4 := (beq1 h4).1; have d1 := (beq0 h1).2
      clear h4 h1
      go_enter Try.func18, Try.ntmps18
      go_wp2
      go_ret
      exact ⟨by rw [HN.out]; rfl, rfl⟩
  · by_cases h400 : y.tmod 400 = 0
    · have HN : Hid (v = true) := Lib.hid (by rw [← HV.out]; simp [h400])
      have d4 := (beq0 h4).1; have d400 := (beq1 h400).1
      clear h4 h400
      go_enter Try.func18, Try.ntmps18
      go_wp2
      go_ret
      exact ⟨by rw [HN.out]; rfl, rfl⟩
    · have HN : Hid (v = false) := Lib.hid (by rw [← HV.out]; simp [h4, h400])
      have d4 := (beq0 h4).1; have d400 := (beq0 h400).1
      clear h4 h400
      go_enter Try.func18, Try.ntmps18
      go_wp2
      go_ret
      exact ⟨by rw [HN.out]; rfl, rfl⟩

theorem days_any (y m : Int) (w : World) :
    Calls Try.prog 19 #[.int .i64 y, .int .i64 m] w fun e w' => e = .returned (.int .i64 (DM.dim y m)) ∧ w = w' := by
  by_cases hm : m = 1 ∨ m = 3 ∨ m = 5 ∨ m = 7 ∨ m = 8 ∨ m = 10 ∨ m = 12
  · have hd : DM.dim y m = 31 := by unfold DM.dim; rw [if_pos hm]
    rw [hd]; clear hd
    rcases hm with rfl | rfl | rfl | rfl | rfl | rfl | rfl
    all_goals
      go_enter Try.func19, Try.ntmps19
      go_wp2
      go_ret
      exact ⟨rfl, rfl⟩
  · by_cases hm2 : m = 4 ∨ m = 6 ∨ m = 9 ∨ m = 11
    · have hd : DM.dim y m = 30 := by unfold DM.dim; rw [if_neg hm, if_pos hm2]
      rw [hd]; clear hd hm
      rcases hm2 with rfl | rfl | rfl | rfl
      all_goals
        go_enter Try.func19, Try.ntmps19
        go_wp2
        go_ret
        exact ⟨rfl, rfl⟩
    · by_cases hm3 : m = 2
      · subst hm3
        clear hm hm2
        cases hl : DM.leap y
        · have hd : DM.dim y 2 = 28 := by unfold DM.dim; rw [hl]; rfl
          rw [hd]; clear hd
          go_enter Try.func19, Try.ntmps19
          go_wp2_with (go_at_call 17; refine (leap_any _ _).mono ?_; rintro e w' ⟨rfl, rfl⟩)
          go_ret
          exact ⟨rfl, rfl⟩
        · have hd : DM.dim y 2 = 29 := by unfold DM.dim; rw [hl]; rfl
          rw [hd]; clear hd
          go_enter Try.func19, Try.ntmps19
          go_wp2_with (go_at_call 17; refine (leap_any _ _).mono ?_; rintro e w' ⟨rfl, rfl⟩)
          go_ret
          exact ⟨rfl, rfl⟩
      · have hd : DM.dim y m = 0 := by unfold DM.dim; rw [if_neg hm, if_neg hm2, if_neg hm3]
        rw [hd]; clear hd
        have e1 := bq (a := m) (b := 1) (by omega)
        have e2 := bq (a := m) (b := 2) (by omega)
        have e3 := bq (a := m) (b := 3) (by omega)
        have e4 := bq (a := m) (b := 4) (by omega)
        have e5 := bq (a := m) (b := 5) (by omega)
        have e6 := bq (a := m) (b := 6) (by omega)
        have e7 := bq (a := m) (b := 7) (by omega)
        have e8 := bq (a := m) (b := 8) (by omega)
        have e9 := bq (a := m) (b := 9) (by omega)
        have e10 := bq (a := m) (b := 10) (by omega)
        have e11 := bq (a := m) (b := 11) (by omega)
        have e12 := bq (a := m) (b := 12) (by omega)
        clear hm hm2 hm3
        go_enter Try.func19, Try.ntmps19
        go_wp2
        go_ret
        exact ⟨rfl, rfl⟩

theorem rdays_any (y m : Int) (w : World) :
    Calls Try.prog 20 #[.int .i64 y, .int .i64 m] w fun e w' => e = .returned (.int .i64 (DM.dim y m)) ∧ w = w' := by
  by_cases hm : m = 1 ∨ m = 3 ∨ m = 5 ∨ m = 7 ∨ m = 8 ∨ m = 10 ∨ m = 12
  · have hd : DM.dim y m = 31 := by unfold DM.dim; rw [if_pos hm]
    rw [hd]; clear hd
    rcases hm with rfl | rfl | rfl | rfl | rfl | rfl | rfl
    all_goals
      go_enter Try.func20, Try.ntmps20
      go_wp2
      go_ret
      exact ⟨rfl, rfl⟩
  · by_cases hm2 : m = 4 ∨ m = 6 ∨ m = 9 ∨ m = 11
    · have hd : DM.dim y m = 30 := by unfold DM.dim; rw [if_neg hm, if_pos hm2]
      rw [hd]; clear hd hm
      rcases hm2 with rfl | rfl | rfl | rfl
      all_goals
        go_enter Try.func20, Try.ntmps20
        go_wp2
        go_ret
        exact ⟨rfl, rfl⟩
    · by_cases hm3 : m = 2
      · subst hm3
        clear hm hm2
        cases hl : DM.leap y
        · have hd : DM.dim y 2 = 28 := by unfold DM.dim; rw [hl]; rfl
          rw [hd]; clear hd
          go_enter Try.func20, Try.ntmps20
          go_wp2_with (go_at_call 18; refine (rleap_any _ _).mono ?_; rintro e w' ⟨rfl, rfl⟩)
          go_ret
          exact ⟨rfl, rfl⟩
        · have hd : DM.dim y 2 = 29 := by unfold DM.dim; rw [hl]; rfl
          rw [hd]; clear hd
          go_enter Try.func20, Try.ntmps20
          go_wp2_with (go_at_call 18; refine (rleap_any _ _).mono ?_; rintro e w' ⟨rfl, rfl⟩)
          go_ret
          exact ⟨rfl, rfl⟩
      · have hd : DM.dim y m = 0 := by unfold DM.dim; rw [if_neg hm, if_neg hm2, if_neg hm3]
        rw [hd]; clear hd
        have e1 := bq (a := m) (b := 1) (by omega)
        have e2 := bq (a := m) (b := 2) (by omega)
        have e3 := bq (a := m) (b := 3) (by omega)
        have e4 := bq (a := m) (b := 4) (by omega)
        have e5 := bq (a := m) (b := 5) (by omega)
        have e6 := bq (a := m) (b := 6) (by omega)
        have e7 := bq (a := m) (b := 7) (by omega)
        have e8 := bq (a := m) (b := 8) (by omega)
        have e9 := bq (a := m) (b := 9) (by omega)
        have e10 := bq (a := m) (b := 10) (by omega)
        have e11 := bq (a := m) (b := 11) (by omega)
        have e12 := bq (a := m) (b := 12) (by omega)
        clear hm hm2 hm3
        go_enter Try.func20, Try.ntmps20
        go_wp2
        go_ret
        exact ⟨rfl, rfl⟩

theorem isDayD_any (d : Int) (w : World) :
    Calls Try.prog 53 #[.int .i64 d] w fun e w' => e = .returned (.bool (DM.isd d)) ∧ w = w' := by
  by_cases h1 : 0 ≤ d
  · by_cases h2 : d ≤ 73048
    · rw [DM.isd_true h1 h2]
      go_enter Try.func53, Try.ntmps53
      go_wp2
      go_ret
      exact ⟨rfl, rfl⟩
    · rw [DM.isd_false (by omega)]
      go_enter Try.func53, Try.ntmps53
      go_wp2
      go_ret
      exact ⟨rfl, rfl⟩
  · rw [DM.isd_false (by omega)]
    go_enter Try.func53, Try.ntmps53
    go_wp2
    go_ret
    exact ⟨rfl, rfl⟩

theorem leapsUntil_any (y : Int) (w : World) (h0 : 0 ≤ y) (h1 : y ≤ 10000) :
    Calls Try.prog 68 #[.int .i64 y] w fun e w' => e = .returned (.int .i64 (DM.lu y)) ∧ w = w' := by
  have b1 : 0 ≤ y.tdiv 4 ∧ y.tdiv 4 ≤ 10000 := by rw [DM.tdiv_pos h0]; omega
  have b2 : 0 ≤ y.tdiv 100 ∧ y.tdiv 100 ≤ 10000 := by rw [DM.tdiv_pos h0]; omega
  have b3 : 0 ≤ y.tdiv 400 ∧ y.tdiv 400 ≤ 10000 := by rw [DM.tdiv_pos h0]; omega
  obtain ⟨b1, c1⟩ := b1
  obtain ⟨b2, c2⟩ := b2
  obtain ⟨b3, c3⟩ := b3
  generalize hv : DM.lu y = v
  have HV := Lib.hid hv
  clear hv
  unfold DM.lu at HV
  go_enter Try.func68, Try.ntmps68
  go_wp2
  go_ret
  exact ⟨by rw [← HV.out]; rfl, rfl⟩

theorem yearStart_any (y : Int) (w : World) (h0 : 2000 ≤ y) (h1 : y ≤ 2200) :
    Calls Try.prog 52 #[.int .i64 y] w fun e w' => e = .returned (.int .i64 (DM.before (y - 2000).toNat)) ∧ w = w' := by
  rw [← DM.ys_at h0]
  obtain ⟨a1, a2⟩ := DM.lu_range (y := y - 1) (by omega) (by omega)
  obtain ⟨b1, b2⟩ := DM.lu_range (y := 1999) (by omega) (by omega)
  have C1 := fun ww => leapsUntil_any (y - 1) ww (by omega) (by omega)
  have C2 := fun ww => leapsUntil_any 1999 ww (by omega) (by omega)
  unfold DM.ys
  generalize DM.lu (y - 1) = p at *
  generalize DM.lu 1999 = q at *
  have H1 := Lib.hid C1; have H2 := Lib.hid C2
  clear C1 C2
  generalize hv : (y - 2000) * 365 + p - q = v
  have HV := Lib.hid hv
  clear hv
  go_enter Try.func52, Try.ntmps52
  go_wp2_with fail
  refine (H1.out _).mono ?_
  rintro e w1 ⟨rfl, rfl⟩
  go_wp2_with fail
  refine (H2.out _).mono ?_
  rintro e w1 ⟨rfl, rfl⟩
  go_wp2
  go_ret
  exact ⟨by rw [← HV.out]; rfl, rfl⟩

theorem weekday_any (d : Int) (w : World) :
    Calls Try.prog 24 #[.int .i64 d] w fun e w' => e = .returned (.int .i64 (DM.weekday d)) ∧ w = w' := by
  by_cases h1 : 0 ≤ d
  · by_cases h2 : d ≤ 73048
    · have hv : DM.weekday d = (d + 5) % 7 + 1 := by unfold DM.weekday; rw [if_pos ⟨h1, h2⟩]
      have r : 0 ≤ (d + 5).tmod 7 ∧ (d + 5).tmod 7 ≤ 6 := by rw [DM.tmod_pos (by omega)]; omega
      obtain ⟨r1, r2⟩ := r
      generalize DM.weekday d = v at *
      have HV := Lib.hid hv
      clear hv
      have HD := DM.isd_true h1 h2
      go_enter Try.func24, Try.ntmps24
      go_wp2_with (go_at_call 53; refine (isDayD_any _ _).mono ?_; rintro e w' ⟨rfl, rfl⟩)
      go_ret
      exact ⟨by rw [HV.out]; first | rfl | (simp; omega), rfl⟩
    · have HD := DM.isd_false (d := d) (by omega)
      have hv : DM.weekday d = 0 := by unfold DM.weekday; rw [if_neg (by omega)]
      rw [hv]; clear hv
      go_enter Try.func24, Try.ntmps24
      go_wp2_with (go_at_call 53; refine (isDayD_any _ _).mono ?_; rintro e w' ⟨rfl, rfl⟩)
      go_ret
      exact ⟨rfl, rfl⟩
  · have HD := DM.isd_false (d := d) (by omega)
    have hv : DM.weekday d = 0 := by unfold DM.weekday; rw [if_neg (by omega)]
    rw [hv]; clear hv
    go_enter Try.func24, Try.ntmps24
    go_wp2_with (go_at_call 53; refine (isDayD_any _ _).mono ?_; rintro e w' ⟨rfl, rfl⟩)
    go_ret
    exact ⟨rfl, rfl⟩

theorem rweekday_any (d : Int) (w : World) :
    Calls Try.prog 25 #[.int .i64 d] w fun e w' => e = .returned (.int .i64 (DM.weekday d)) ∧ w = w' := by
  by_cases h1 : 0 ≤ d
  · by_cases h2 : d ≤ 73048
    · have hv : DM.weekday d = (d + 5) % 7 + 1 := by unfold DM.weekday; rw [if_pos ⟨h1, h2⟩]
      have r : 0 ≤ (d + 5).tmod 7 ∧ (d + 5).tmod 7 ≤ 6 := by rw [DM.tmod_pos (by omega)]; omega
      obtain ⟨r1, r2⟩ := r
      generalize DM.weekday d = v at *
      have HV := Lib.hid hv
      clear hv
      go_enter Try.func25, Try.ntmps25
      go_wp2
      go_ret
      exact ⟨by rw [HV.out]; first | rfl | (simp; omega), rfl⟩
    · have hv : DM.weekday d = 0 := by unfold DM.weekday; rw [if_neg (by omega)]
      rw [hv]; clear hv
      go_enter Try.func25, Try.ntmps25
      go_wp2
      go_ret
      exact ⟨rfl, rfl⟩
  · have hv : DM.weekday d = 0 := by unfold DM.weekday; rw [if_neg (by omega)]
    rw [hv]; clear hv
    go_enter Try.func25, Try.ntmps25
    go_wp2
    go_ret
    exact ⟨rfl, rfl⟩
end Go.Proofs.Ythahfcehfagepaa
