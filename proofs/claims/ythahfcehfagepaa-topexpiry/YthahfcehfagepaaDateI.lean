/- Contracts: the n-th weekday, months on. -/
import Derived.Test.YthahfcehfagepaaDateH
namespace Go.Proofs.Ythahfcehfagepaa
open Go.RowKit
set_option linter.unusedVariables false

theorem nth_bad {y m wd n : Int} (h : wd < 1 ∨ 7 < wd ∨ n < 1 ∨ 5 < n) : DM.nthN y m wd n = 0 ∧ DM.nthE y m wd n = 2 := by
  have e : DM.nthE y m wd n = 2 := by unfold DM.nthE; rw [if_pos h]
  refine ⟨?_, e⟩
  unfold DM.nthN; rw [e]; rfl
theorem nth_of {y m wd n : Int} (h : ¬ (wd < 1 ∨ 7 < wd ∨ n < 1 ∨ 5 < n)) : DM.nthN y m wd n = DM.ofN y m (DM.nthD y m wd n) ∧ DM.nthE y m wd n = DM.ofE y m (DM.nthD y m wd n) := by
  by_cases hok : DM.okDate y m (DM.nthD y m wd n)
  · have e : DM.nthE y m wd n = 0 := by unfold DM.nthE; rw [if_neg h, if_pos hok]
    rw [(ofYes hok).1, (ofYes hok).2]
    refine ⟨?_, e⟩
    unfold DM.nthN; rw [if_pos e]
  · have e : DM.nthE y m wd n = 15 := by unfold DM.nthE; rw [if_neg h, if_neg hok]
    rw [(ofNo hok).1, (ofNo hok).2]
    refine ⟨?_, e⟩
    unfold DM.nthN; rw [if_neg (by omega)]
theorem first_ok {y m d : Int} (h : DM.okDate y m d) : DM.okDate y m 1 := by
  obtain ⟨p1, p2, p3, p4, p5, p6⟩ := h
  exact ⟨p1, p2, p3, p4, by omega, by omega⟩
theorem nth_none {y m wd n : Int} (h : ¬ (wd < 1 ∨ 7 < wd ∨ n < 1 ∨ 5 < n)) (h1 : ¬ DM.okDate y m 1) : DM.nthN y m wd n = 0 ∧ DM.nthE y m wd n = 15 := by
  have hno : ¬ DM.okDate y m (DM.nthD y m wd n) := fun g => h1 (first_ok g)
  rw [(nth_of h).1, (nth_of h).2, (ofNo hno).1, (ofNo hno).2]
  exact ⟨rfl, rfl⟩

set_option maxHeartbeats 1000000 in
theorem nth_any (y m wd n : Int) (w : World) :
    Calls Try.prog 32 #[.int .i64 y, .int .i64 m, .int .i64 wd, .int .i64 n] w fun e w' => e = .returned (.tuple #[.int .i64 (DM.nthN y m wd n), .int .i64 (DM.nthE y m wd n)]) ∧ w = w' := by
  by_cases h : wd < 1 ∨ 7 < wd ∨ n < 1 ∨ 5 < n
  · rw [(nth_bad h).1, (nth_bad h).2]
    have : wd < 1 ∨ (1 ≤ wd ∧ 7 < wd) ∨ (1 ≤ wd ∧ wd ≤ 7 ∧ n < 1) ∨ (1 ≤ wd ∧ wd ≤ 7 ∧ 1 ≤ n ∧ 5 < n) := by omega
    clear h
    rcases this with h1 | ⟨h1, h2⟩ | ⟨h1, h2, h3⟩ | ⟨h1, h2, h3, h4⟩
    all_goals
      go_enter Try.func32, Try.ntmps32
      go_wp2
      go_ret2
      exact ⟨rfl, rfl⟩
  · by_cases h1 : DM.okDate y m 1
    · have C0 := fun ww => of_any y m 1 ww
      rw [(ofYes h1).1, (ofYes h1).2] at C0
      obtain ⟨_, _, _, _, a5, a6⟩ := DM.day_in h1
      have CW := fun ww => weekday_any (DM.dayOf y m 1) ww
      rw [DM.weekday_in a5 a6] at CW
      have CD : ∀ (d : Int) (ww : World), d = DM.nthD y m wd n → Calls Try.prog 15 #[.int .i64 y, .int .i64 m, .int .i64 d] ww fun e w' => e = .returned (.tuple #[.int .i64 (DM.nthN y m wd n), .int .i64 (DM.nthE y m wd n)]) ∧ ww = w' := by
        rintro d ww rfl
        rw [(nth_of h).1, (nth_of h).2]
        exact of_any _ _ _ _
      generalize DM.nthN y m wd n = rn at *
      generalize DM.nthE y m wd n = re at *
      unfold DM.nthD at CD
      generalize DM.dayOf y m 1 = f0 at *
      have r1 : 0 ≤ (f0 + 5) % 7 := by omega
      have r2 : (f0 + 5) % 7 ≤ 6 := by omega
      generalize (f0 + 5) % 7 = q at *
      have b1 : 1 ≤ wd := by omega
      have b2 : wd ≤ 7 := by omega
      have b3 : 1 ≤ n := by omega
      have b4 : n ≤ 5 := by omega
      have H0 := Lib.hid C0; have HW := Lib.hid CW; have HD := Lib.hid CD
      clear C0 CW CD h h1
      go_enter Try.func32, Try.ntmps32
      go_wp2_with fail
      refine (H0.out _).mono ?_
      rintro e w1 ⟨rfl, rfl⟩
      go_wp2_with fail
      refine (HW.out _).mono ?_
      rintro e w1 ⟨rfl, rfl⟩
      go_wp2_with fail
      refine (HD.out _ _ (by omega)).mono ?_
      rintro e w1 ⟨rfl, rfl⟩
      go_wp2
      go_ret2
      exact ⟨rfl, rfl⟩
    · rw [(nth_none h h1).1, (nth_none h h1).2]
      have C0 := fun ww => of_any y m 1 ww
      rw [(ofNo h1).1, (ofNo h1).2] at C0
      have b1 : 1 ≤ wd := by omega
      have b2 : wd ≤ 7 := by omega
      have b3 : 1 ≤ n := by omega
      have b4 : n ≤ 5 := by omega
      have H0 := Lib.hid C0
      clear C0 h h1
      go_enter Try.func32, Try.ntmps32
      go_wp2_with fail
      refine (H0.out _).mono ?_
      rintro e w1 ⟨rfl, rfl⟩
      go_wp2
      go_ret2
      exact ⟨rfl, rfl⟩

theorem nthLeft_done {y m wd n d : Int} (h : DM.nthD y m wd n < d) : DM.nthLeft y m wd n d ≤ 0 := by
  have s := DM.nthD_step y m wd n
  unfold DM.nthLeft; omega
theorem nthLeft_le {y m wd n d : Int} (hd : 1 ≤ d) : DM.nthLeft y m wd n d ≤ n := by
  have r := DM.nthD_range y m wd 1
  unfold DM.nthLeft; omega

set_option maxHeartbeats 2000000 in
theorem rnth_any (y m wd n : Int) (w : World) :
    Calls Try.prog 67 #[.int .i64 y, .int .i64 m, .int .i64 wd, .int .i64 n] w fun e w' => e = .returned (.tuple #[.int .i64 (DM.nthN y m wd n), .int .i64 (DM.nthE y m wd n)]) ∧ w = w' := by
  by_cases h : wd < 1 ∨ 7 < wd ∨ n < 1 ∨ 5 < n
  · rw [(nth_bad h).1, (nth_bad h).2]
    have : wd < 1 ∨ (1 ≤ wd ∧ 7 < wd) ∨ (1 ≤ wd ∧ wd ≤ 7 ∧ n < 1) ∨ (1 ≤ wd ∧ wd ≤ 7 ∧ 1 ≤ n ∧ 5 < n) := by omega
    clear h
    rcases this with h1 | ⟨h1, h2⟩ | ⟨h1, h2, h3⟩ | ⟨h1, h2, h3, h4⟩
    all_goals
      go_enter Try.func67, Try.ntmps67
      go_wp2
      go_ret2
      exact ⟨rfl, rfl⟩
  · have b1 : 1 ≤ wd := by omega
    have b2 : wd ≤ 7 := by omega
    have b3 : 1 ≤ n := by omega
    have b4 : n ≤ 5 := by omega
    have CD := fun ww => rdays_any y m ww
    have dr := DM.dim_range y m
    by_cases h1 : DM.okDate y m 1
    · have HO : Hid (∀ d, 1 ≤ d → d ≤ DM.dim y m → DM.okDate y m d) := Lib.hid (fun d a b => ⟨h1.1, h1.2.1, h1.2.2.1, h1.2.2.2.1, a, b⟩)
      have HN := Lib.hid (nth_of (y := y) (m := m) h)
      generalize hrn : DM.nthN y m wd n = rn at *
      generalize hre : DM.nthE y m wd n = re at *
      have HCD := Lib.hid CD
      obtain ⟨dr1, dr2⟩ := dr
      clear CD h h1 hrn hre
      go_enter Try.func67, Try.ntmps67
      go_wp2
      go_loop [3, 10] (fun a b => ∃ x d : Int, a = .int .i64 x ∧ b = .int .i64 d ∧ 1 ≤ d ∧ d ≤ DM.dim y m + 1 ∧ 1 ≤ x ∧ x ≤ 5 ∧ Hid (DM.nthLeft y m wd n d = x)) (fun _ b => (32 - intOf b).toNat)
      case atStart => exact ⟨n, 1, rfl, rfl, by omega, by omega, b3, b4, Lib.hid (DM.nthLeft_start _ _ _ _)⟩
      case round =>
        obtain ⟨x, d, rfl, rfl, d1, d2, x1, x2, HX⟩ := hrel
        by_cases hlt : d ≤ DM.dim y m
        · have hok := HO.out d d1 hlt
          have CO := fun ww => rof_any y m d ww
          rw [(ofYes hok).1, (ofYes hok).2] at CO
          have CW := fun ww => rweekday_any (DM.dayOf y m d) ww
          have hw := DM.weekday_nth hok b1 b2
          have HL1 := Lib.hid (@DM.nthLeft_hit y m wd n d)
          have HL2 := Lib.hid (@DM.nthLeft_miss y m wd n d)
          have HDN := Lib.hid (HN.out)
          have HOK := Lib.hid hok
          have HDD := Lib.hid (rfl : DM.dayOf y m d = DM.dayOf y m d)
          generalize hdd : DM.dayOf y m d = dd at *
          have HDD := Lib.hid hdd
          generalize DM.weekday dd = wk at *
          have HCO := Lib.hid CO; have HCW := Lib.hid CW
          clear CO CW hok hdd
          by_cases hwk : wk = wd
          · have hst := HL1.out (hw.1 hwk)
            rw [HX.out] at hst
            have hb : (wk == wd) = true := beq_t hwk
            by_cases hx1 : x = 1
            · have HDQ := Lib.hid (DM.nthLeft_zero d1 b3 (by rw [HX.out]; omega) (by rw [hst]; omega))
              have HQ : Hid (rn = dd ∧ re = 0) := Lib.hid (by
                rw [HN.out.1, HN.out.2, ← HDQ.out, (ofYes HOK.out).1, (ofYes HOK.out).2]
                exact ⟨HDD.out, rfl⟩)
              have hx0 : (x - 1 == 0) = true := by simp; omega
              clear hst hwk hw hx1
              go_wp2_with (first
                | (go_at_call 20; refine (HCD.out _).mono ?_; rintro e w' ⟨rfl, rfl⟩)
                | (go_at_call 16; refine (HCO.out _).mono ?_; rintro e w' ⟨rfl, rfl⟩)
                | (go_at_call 25; refine (HCW.out _).mono ?_; rintro e w' ⟨rfl, rfl⟩))
              go_ret2
              exact ⟨by rw [HQ.out.1, HQ.out.2]; rfl, rfl⟩
            · have hx0 : (x - 1 == 0) = false := by simp; omega
              have HST := Lib.hid hst
              have x3 : 1 ≤ x - 1 := by omega
              clear hst hwk hw hx1
              go_wp2_with (first
                | (go_at_call 20; refine (HCD.out _).mono ?_; rintro e w' ⟨rfl, rfl⟩)
                | (go_at_call 16; refine (HCO.out _).mono ?_; rintro e w' ⟨rfl, rfl⟩)
                | (go_at_call 25; refine (HCW.out _).mono ?_; rintro e w' ⟨rfl, rfl⟩))
              go_round
              case rel => exact ⟨_, _, rfl, rfl, by omega, by omega, x3, by omega, HST⟩
              case measure => simp [intOf]; omega
          · have hst := HL2.out (fun g => hwk (hw.2 g))
            rw [HX.out] at hst
            have hb : (wk == wd) = false := beq_f hwk
            have hx0 : (x == 0) = false := by simp; omega
            have HST := Lib.hid hst
            clear hst hwk hw
            go_wp2_with (first
              | (go_at_call 20; refine (HCD.out _).mono ?_; rintro e w' ⟨rfl, rfl⟩)
              | (go_at_call 16; refine (HCO.out _).mono ?_; rintro e w' ⟨rfl, rfl⟩)
              | (go_at_call 25; refine (HCW.out _).mono ?_; rintro e w' ⟨rfl, rfl⟩))
            go_round
            case rel => exact ⟨_, _, rfl, rfl, by omega, by omega, x1, x2, HST⟩
            case measure => simp [intOf]; omega
        · have HQ : Hid (rn = 0 ∧ re = 15) := Lib.hid (by
            have hno : ¬ DM.okDate y m (DM.nthD y m wd n) := by
              rintro ⟨_, _, _, _, _, g⟩
              have := nthLeft_done (y := y) (m := m) (wd := wd) (n := n) (d := d) (by omega)
              rw [HX.out] at this
              omega
            rw [HN.out.1, HN.out.2, (ofNo hno).1, (ofNo hno).2]
            exact ⟨rfl, rfl⟩)
          go_wp2_with (go_at_call 20; refine (HCD.out _).mono ?_; rintro e w' ⟨rfl, rfl⟩)
          go_ret2
          exact ⟨by rw [HQ.out.1, HQ.out.2]; rfl, rfl⟩
    · rw [(nth_none h h1).1, (nth_none h h1).2]
      have CO := fun ww => rof_any y m 1 ww
      rw [(ofNo h1).1, (ofNo h1).2] at CO
      have HCD := Lib.hid CD; have HCO := Lib.hid CO
      obtain ⟨dr1, dr2⟩ := dr
      clear CD CO h h1
      go_enter Try.func67, Try.ntmps67
      go_wp2
      go_loop [3, 10] (fun a b => a = .int .i64 n ∧ b = .int .i64 1) (fun _ b => (32 - intOf b).toNat)
      case atStart => exact ⟨rfl, rfl⟩
      case round =>
        obtain ⟨rfl, rfl⟩ := hrel
        by_cases hlt : 1 ≤ DM.dim y m
        · go_wp2_with (first
            | (go_at_call 20; refine (HCD.out _).mono ?_; rintro e w' ⟨rfl, rfl⟩)
            | (go_at_call 16; refine (HCO.out _).mono ?_; rintro e w' ⟨rfl, rfl⟩))
          go_ret2
          exact ⟨rfl, rfl⟩
        · go_wp2_with (go_at_call 20; refine (HCD.out _).mono ?_; rintro e w' ⟨rfl, rfl⟩)
          go_ret2
          exact ⟨rfl, rfl⟩
end Go.Proofs.Ythahfcehfagepaa
