import Derived.Test.YthahfcehfagepaaDateJ
namespace Go.Proofs.Ythahfcehfagepaa.dateMonths
open Go.RowKit
set_option linter.unusedVariables false

set_option maxHeartbeats 1000000 in
theorem walk (day n : Int) (w : World) (w0 : -9223372036854775808 ≤ day ∧ day ≤ 9223372036854775807) (w1 : -9223372036854775808 ≤ n ∧ n ≤ 9223372036854775807) :
    Calls Try.prog 6 #[.int .i64 day, .int .i64 n] w fun e w' => e = .returned (.bool true) ∧ Below w.heap.size w w' := by
  rcases DM.day_cases day with h | ⟨y, m, d, h⟩
  · have H1 := Lib.hid (fun ww => months_no day n ww h); have H2 := Lib.hid (fun ww => rmonths_no day n ww h)
    clear h
    go_enter Try.func6, Try.ntmps6
    go_wp2_with fail
    refine (H1.out _).mono ?_
    rintro e w1 ⟨rfl, rfl⟩
    go_wp2_with fail
    refine (H2.out _).mono ?_
    rintro e w1 ⟨rfl, rfl⟩
    go_wp2_with fail
    refine (goes5_any _).mono ?_
    rintro e w1 ⟨rfl, b1⟩
    go_wp2
    go_ret
    exact ⟨rfl, b1⟩
  · have H1 := Lib.hid (fun ww => months_any day y m d n ww h w1.1 w1.2); have H2 := Lib.hid (fun ww => rmonths_any day y m d n ww h w1.1 w1.2)
    by_cases he : DM.monthsE y m d n = 0
    · obtain ⟨y2, m2, d2, i2, e2, l1, l2⟩ := DM.months_back h.1 he
      rw [h.2] at l1 l2
      have hr : -2400 ≤ n ∧ n ≤ 2400 := by
        have hno : ¬ (12 * y + m - 1 + n < 24000 ∨ 26399 < 12 * y + m - 1 + n) := fun g => by
          have := (months_out (d := d) g).2
          omega
        obtain ⟨⟨p1, p2, p3, p4, p5, p6⟩, _⟩ := h
        omega
      obtain ⟨r1, r2⟩ := hr
      have C3 := fun ww => months_any (DM.monthsN y m d n) y2 m2 d2 (-n) ww i2 (by omega) (by omega)
      rw [e2] at C3
      have H3 := Lib.hid C3
      rw [he] at H1 H2
      obtain ⟨_, _, _, _, q1, q2⟩ := DM.day_in h.1
      rw [h.2] at q1 q2
      have hb0 : -100000 ≤ DM.monthsN y2 m2 d2 (-n) := by omega
      generalize DM.monthsN y m d n = rn at *
      generalize DM.monthsN y2 m2 d2 (-n) = bk at *
      clear C3 h he i2 e2
      go_enter Try.func6, Try.ntmps6
      go_wp2_with fail
      refine (H1.out _).mono ?_
      rintro e w1 ⟨rfl, rfl⟩
      go_wp2_with fail
      refine (H2.out _).mono ?_
      rintro e w1 ⟨rfl, rfl⟩
      go_wp2_with fail
      refine (H3.out _).mono ?_
      rintro e w1 ⟨rfl, rfl⟩
      go_wp2_with fail
      refine (goes5_any _).mono ?_
      rintro e w1 ⟨rfl, b1⟩
      go_wp2
      go_ret
      exact ⟨rfl, b1⟩
    · generalize DM.monthsN y m d n = rn at *
      generalize DM.monthsE y m d n = re at *
      have hb : (re != 0) = true := by simpa using he
      clear h he
      go_enter Try.func6, Try.ntmps6
      go_wp2_with fail
      refine (H1.out _).mono ?_
      rintro e w1 ⟨rfl, rfl⟩
      go_wp2_with fail
      refine (H2.out _).mono ?_
      rintro e w1 ⟨rfl, rfl⟩
      go_wp2_with fail
      refine (goes5_any _).mono ?_
      rintro e w1 ⟨rfl, b1⟩
      go_wp2
      go_ret
      exact ⟨rfl, b1⟩
end Go.Proofs.Ythahfcehfagepaa.dateMonths
