/- Contracts: a date's day, the program's and the reference's. -/
import Derived.Test.YthahfcehfagepaaDateA
namespace Go.Proofs.Ythahfcehfagepaa
open Go.RowKit
set_option linter.unusedVariables false

theorem ofNo {y m d : Int} (h : ¬ DM.okDate y m d) : DM.ofN y m d = 0 ∧ DM.ofE y m d = 15 := by
  unfold DM.ofN DM.ofE; rw [if_neg h, if_neg h]; exact ⟨rfl, rfl⟩
theorem ofYes {y m d : Int} (h : DM.okDate y m d) : DM.ofN y m d = DM.dayOf y m d ∧ DM.ofE y m d = 0 := by
  unfold DM.ofN DM.ofE; rw [if_pos h, if_pos h]; exact ⟨rfl, rfl⟩
theorem dateNo {y m d : Int} (h : ¬ DM.okDate y m d) : y < 2000 ∨ (2000 ≤ y ∧ 2199 < y) ∨ (2000 ≤ y ∧ y ≤ 2199 ∧ d < 1) ∨ (2000 ≤ y ∧ y ≤ 2199 ∧ 1 ≤ d ∧ DM.dim y m < d) := by
  by_cases a : y < 2000
  · exact .inl a
  · by_cases b : 2199 < y
    · exact .inr (.inl ⟨by omega, b⟩)
    · by_cases c : d < 1
      · exact .inr (.inr (.inl ⟨by omega, by omega, c⟩))
      · by_cases e : DM.dim y m < d
        · exact .inr (.inr (.inr ⟨by omega, by omega, by omega, e⟩))
        · exfalso
          have := DM.month_of (y := y) (m := m) (d := d) (by omega) (by omega)
          exact h ⟨by omega, by omega, this.1, this.2, by omega, by omega⟩

set_option maxHeartbeats 1000000 in
theorem of_any (y m d : Int) (w : World) :
    Calls Try.prog 15 #[.int .i64 y, .int .i64 m, .int .i64 d] w fun e w' => e = .returned (.tuple #[.int .i64 (DM.ofN y m d), .int .i64 (DM.ofE y m d)]) ∧ w = w' := by
  by_cases h : DM.okDate y m d
  · rw [(ofYes h).1, (ofYes h).2]
    obtain ⟨p1, p2, p3, p4, p5, p6⟩ := h
    have CY := fun ww => yearStart_any y ww p1 (by omega)
    have hr := DM.before_range (k := (y - 2000).toNat) (by omega)
    have hc := fun j => DM.cum_range y j
    have hs := DM.cum_succ y
    have c0 : DM.cum y 0 = 0 := rfl
    have hdr := DM.dim_range y
    generalize hv : DM.dayOf y m d = v
    unfold DM.dayOf at hv
    generalize DM.before (y - 2000).toNat = B at *
    have CD := fun m ww => days_any y m ww
    generalize DM.cum y = cu at *
    generalize DM.dim y = di at *
    obtain ⟨r1, r2⟩ := hr
    have HCY := Lib.hid CY; have HCD := Lib.hid CD; have HC := Lib.hid hc; have HS := Lib.hid hs; have HV := Lib.hid hv; have HDR := Lib.hid hdr; have HC0 := Lib.hid c0
    have d31 := (hdr m).2
    clear CY CD hc hs hv hdr c0
    go_enter Try.func15, Try.ntmps15
    go_wp2_with fail
    refine (HCD.out _ _).mono ?_
    rintro e w1 ⟨rfl, rfl⟩
    go_wp2_with fail
    refine (HCY.out _).mono ?_
    rintro e w1 ⟨rfl, rfl⟩
    go_wp2
    go_loop [6, 8] (fun v i => ∃ j : Nat, ∃ x : Int, (j : Int) + 1 ≤ m ∧ i = .int .i64 ((j : Int) + 1) ∧ v = .int .i64 x ∧ 0 ≤ x ∧ x ≤ 73500 ∧ Hid (x = B + cu j)) (fun _ i => (m - intOf i).toNat)
    case atStart => exact ⟨0, B, by omega, rfl, rfl, r1, by omega, Lib.hid (by rw [HC0.out]; omega)⟩
    case round =>
      obtain ⟨j, x, hj, rfl, rfl, x1, x2, HX⟩ := hrel
      by_cases hlt : (j : Int) + 1 < m
      · have g1 := HDR.out ((j : Int) + 1)
        have g2 := HC.out (j + 1) (by omega)
        have g3 := HS.out j
        have HN : Hid (x + di ((j : Int) + 1) = B + cu (j + 1)) := Lib.hid (by rw [HX.out, g3]; omega)
        have b1 : 0 ≤ x + di ((j : Int) + 1) := by omega
        have b2 : x + di ((j : Int) + 1) ≤ 73500 := by rw [HN.out]; omega
        obtain ⟨g11, g12⟩ := g1
        clear g2 g3
        go_wp2_with fail
        refine (HCD.out _ _).mono ?_
        rintro e w1 ⟨rfl, rfl⟩
        go_wp2
        go_round
        case rel => exact ⟨j + 1, _, by omega, by go_num, rfl, b1, b2, HN⟩
        case measure => simp [intOf]; omega
      · have hjm : Hid (j = (m - 1).toNat) := Lib.hid (by omega)
        go_wp2
        go_ret2
        exact ⟨by rw [← HV.out, ← hjm.out, ← HX.out]; rfl, rfl⟩
  · rw [(ofNo h).1, (ofNo h).2]
    rcases dateNo h with h1 | ⟨h1, h2⟩ | ⟨h1, h2, h3⟩ | ⟨h1, h2, h3, h4⟩
    all_goals
      clear h
      go_enter Try.func15, Try.ntmps15
      go_wp2_with (go_at_call 19; refine (days_any _ _ _).mono ?_; rintro e w' ⟨rfl, rfl⟩)
      go_ret2
      exact ⟨rfl, rfl⟩

set_option maxHeartbeats 1000000 in
theorem rof_any (y m d : Int) (w : World) :
    Calls Try.prog 16 #[.int .i64 y, .int .i64 m, .int .i64 d] w fun e w' => e = .returned (.tuple #[.int .i64 (DM.ofN y m d), .int .i64 (DM.ofE y m d)]) ∧ w = w' := by
  by_cases h : DM.okDate y m d
  · rw [(ofYes h).1, (ofYes h).2]
    obtain ⟨p1, p2, p3, p4, p5, p6⟩ := h
    have hr := fun k => @DM.before_range k
    have hbs := DM.before_succ
    have b0 : DM.before 0 = 0 := rfl
    have hc := fun j => DM.cum_range y j
    have hs := DM.cum_succ y
    have c0 : DM.cum y 0 = 0 := rfl
    have hdr := DM.dim_range y
    generalize hv : DM.dayOf y m d = v
    unfold DM.dayOf at hv
    generalize DM.before = be at *
    have CD := fun m ww => rdays_any y m ww
    generalize DM.cum y = cu at *
    generalize DM.dim y = di at *
    have HBS := Lib.hid hbs; have HCD := Lib.hid CD; have HC := Lib.hid hc; have HS := Lib.hid hs; have HV := Lib.hid hv; have HDR := Lib.hid hdr; have HC0 := Lib.hid c0; have HB0 := Lib.hid b0; have HR := Lib.hid hr
    have d31 := (hdr m).2
    clear hbs CD hc hs hv hdr c0 b0 hr
    go_enter Try.func16, Try.ntmps16
    go_wp2_with fail
    refine (HCD.out _ _).mono ?_
    rintro e w1 ⟨rfl, rfl⟩
    go_wp2
    go_loop [8, 9] (fun v i => ∃ j : Nat, ∃ x : Int, (j : Int) + 1 ≤ m ∧ i = .int .i64 ((j : Int) + 1) ∧ v = .int .i64 x ∧ 0 ≤ x ∧ x ≤ 500 ∧ Hid (x = d - 1 + cu j)) (fun _ i => (m - intOf i).toNat)
    case atStart => exact ⟨0, d - 1, by omega, rfl, rfl, by omega, by omega, Lib.hid (by rw [HC0.out]; omega)⟩
    case round =>
      obtain ⟨j, x, hj, rfl, rfl, x1, x2, HX⟩ := hrel
      by_cases hlt : (j : Int) + 1 < m
      · have g1 := HDR.out ((j : Int) + 1)
        have g2 := HC.out (j + 1) (by omega)
        have g3 := HS.out j
        have HN : Hid (x + di ((j : Int) + 1) = d - 1 + cu (j + 1)) := Lib.hid (by rw [HX.out, g3]; omega)
        have b1 : 0 ≤ x + di ((j : Int) + 1) := by omega
        have b2 : x + di ((j : Int) + 1) ≤ 500 := by rw [HN.out]; omega
        obtain ⟨g11, g12⟩ := g1
        clear g2 g3
        go_wp2_with fail
        refine (HCD.out _ _).mono ?_
        rintro e w1 ⟨rfl, rfl⟩
        go_wp2
        go_round
        case rel => exact ⟨j + 1, _, by omega, by go_num, rfl, b1, b2, HN⟩
        case measure => simp [intOf]; omega
      · have hjm : Hid (j = (m - 1).toNat) := Lib.hid (by omega)
        go_wp2
        go_loop [8, 10] (fun v i => ∃ k : Nat, ∃ z : Int, (k : Int) + 2000 ≤ y ∧ i = .int .i64 ((k : Int) + 2000) ∧ v = .int .i64 z ∧ 0 ≤ z ∧ z ≤ 80000 ∧ Hid (z = x + be k)) (fun _ i => (y - intOf i).toNat)
        case atStart => exact ⟨0, x, by omega, rfl, rfl, x1, by omega, Lib.hid (by rw [HB0.out]; omega)⟩
        case round =>
          obtain ⟨k, z, hk, rfl, rfl, z1, z2, HZ⟩ := hrel
          by_cases hlt2 : (k : Int) + 2000 < y
          · have g1 := DM.ylen_range (2000 + (k : Int))
            have g2 := HR.out (k + 1) (by omega)
            have g3 := HBS.out k
            rw [show (2000 : Int) + k = k + 2000 by omega] at g3 g1
            cases hl : DM.leap ((k : Int) + 2000)
            · have hy : DM.ylen ((k : Int) + 2000) = 365 := by unfold DM.ylen; rw [hl]; rfl
              rw [hy] at g3
              have HN : Hid (z + 365 = x + be (k + 1)) := Lib.hid (by rw [HZ.out, g3]; omega)
              have b2 : z + 365 ≤ 80000 := by rw [HN.out]; omega
              clear g1 g2 g3 hy
              go_wp2_with (go_at_call 18; refine (rleap_any _ _).mono ?_; rintro e w' ⟨rfl, rfl⟩)
              go_round
              case rel => exact ⟨k + 1, _, by omega, by go_num, rfl, by omega, b2, HN⟩
              case measure => simp [intOf]; omega
            · have hy : DM.ylen ((k : Int) + 2000) = 366 := by unfold DM.ylen; rw [hl]; rfl
              rw [hy] at g3
              have HN : Hid (z + 365 + 1 = x + be (k + 1)) := Lib.hid (by rw [HZ.out, g3]; omega)
              have b2 : z + 365 + 1 ≤ 80000 := by rw [HN.out]; omega
              clear g1 g2 g3 hy
              go_wp2_with (go_at_call 18; refine (rleap_any _ _).mono ?_; rintro e w' ⟨rfl, rfl⟩)
              go_round
              case rel => exact ⟨k + 1, _, by omega, by go_num, rfl, by omega, b2, HN⟩
              case measure => simp [intOf]; omega
          · have hky : Hid (k = (y - 2000).toNat) := Lib.hid (by omega)
            have HQ : Hid (v = z) := Lib.hid (by rw [← HV.out, ← hjm.out, ← hky.out, HZ.out, HX.out]; omega)
            go_wp2
            go_ret2
            exact ⟨by rw [HQ.out]; rfl, rfl⟩
  · rw [(ofNo h).1, (ofNo h).2]
    rcases dateNo h with h1 | ⟨h1, h2⟩ | ⟨h1, h2, h3⟩ | ⟨h1, h2, h3, h4⟩
    all_goals
      clear h
      go_enter Try.func16, Try.ntmps16
      go_wp2_with (go_at_call 20; refine (rdays_any _ _ _).mono ?_; rintro e w' ⟨rfl, rfl⟩)
      go_ret2
      exact ⟨rfl, rfl⟩
end Go.Proofs.Ythahfcehfagepaa
