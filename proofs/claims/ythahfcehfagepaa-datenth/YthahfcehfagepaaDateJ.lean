/- Contracts: months on; the page's examples. -/
import Derived.Test.YthahfcehfagepaaDateI
namespace Go.Proofs.Ythahfcehfagepaa
open Go.RowKit
set_option linter.unusedVariables false

theorem months_out {y m d n : Int} (h : 12 * y + m - 1 + n < 24000 ∨ 26399 < 12 * y + m - 1 + n) : DM.monthsN y m d n = 0 ∧ DM.monthsE y m d n = 15 := by
  unfold DM.monthsN DM.monthsE
  refine ofNo ?_
  rintro ⟨p1, p2, _⟩
  omega
theorem months_in (y m d n : Int) : DM.monthsN y m d n = DM.ofN ((12 * y + m - 1 + n) / 12) ((12 * y + m - 1 + n) % 12 + 1) (min d (DM.dim ((12 * y + m - 1 + n) / 12) ((12 * y + m - 1 + n) % 12 + 1))) ∧
    DM.monthsE y m d n = DM.ofE ((12 * y + m - 1 + n) / 12) ((12 * y + m - 1 + n) % 12 + 1) (min d (DM.dim ((12 * y + m - 1 + n) / 12) ((12 * y + m - 1 + n) % 12 + 1))) := ⟨rfl, rfl⟩

set_option maxHeartbeats 1000000 in
theorem months_any (day y m d n : Int) (w : World) (h : DM.isDate day y m d) (n1 : -9223372036854775808 ≤ n) (n2 : n ≤ 9223372036854775807) :
    Calls Try.prog 30 #[.int .i64 day, .int .i64 n] w fun e w' => e = .returned (.tuple #[.int .i64 (DM.monthsN y m d n), .int .i64 (DM.monthsE y m d n)]) ∧ w = w' := by
  have HS := Lib.hid (fun ww => split_any day y m d ww h)
  obtain ⟨⟨p1, p2, p3, p4, p5, p6⟩, _⟩ := h
  have d31 := (DM.dim_range y m).2
  by_cases c1 : n < -((y - 2000) * 12 + m - 1)
  · rw [(months_out (by omega)).1, (months_out (by omega)).2]
    go_enter Try.func30, Try.ntmps30
    go_wp2_with fail
    refine (HS.out _).mono ?_
    rintro e w1 ⟨rfl, rfl⟩
    go_wp2
    go_ret2
    exact ⟨rfl, rfl⟩
  · by_cases c2 : 2399 - ((y - 2000) * 12 + m - 1) < n
    · rw [(months_out (by omega)).1, (months_out (by omega)).2]
      go_enter Try.func30, Try.ntmps30
      go_wp2_with fail
      refine (HS.out _).mono ?_
      rintro e w1 ⟨rfl, rfl⟩
      go_wp2
      go_ret2
      exact ⟨rfl, rfl⟩
    · obtain ⟨hn, he⟩ := months_in y m d n
      have CD : ∀ (a b : Int) (ww : World), a = (12 * y + m - 1 + n) / 12 → b = (12 * y + m - 1 + n) % 12 + 1 → Calls Try.prog 19 #[.int .i64 a, .int .i64 b] ww fun e w' => e = .returned (.int .i64 (DM.dim ((12 * y + m - 1 + n) / 12) ((12 * y + m - 1 + n) % 12 + 1))) ∧ ww = w' := by
        rintro a b ww rfl rfl; exact days_any _ _ _
      have CO : ∀ (a b c : Int) (ww : World), a = (12 * y + m - 1 + n) / 12 → b = (12 * y + m - 1 + n) % 12 + 1 → c = min d (DM.dim ((12 * y + m - 1 + n) / 12) ((12 * y + m - 1 + n) % 12 + 1)) → Calls Try.prog 15 #[.int .i64 a, .int .i64 b, .int .i64 c] ww fun e w' => e = .returned (.tuple #[.int .i64 (DM.monthsN y m d n), .int .i64 (DM.monthsE y m d n)]) ∧ ww = w' := by
        rintro a b c ww rfl rfl rfl; rw [hn, he]; exact of_any _ _ _ _
      generalize DM.monthsN y m d n = rn at *
      generalize DM.monthsE y m d n = re at *
      have dr := DM.dim_range ((12 * y + m - 1 + n) / 12) ((12 * y + m - 1 + n) % 12 + 1)
      clear hn he
      generalize DM.dim ((12 * y + m - 1 + n) / 12) ((12 * y + m - 1 + n) % 12 + 1) = dm at *
      obtain ⟨dr1, dr2⟩ := dr
      have HCD := Lib.hid CD; have HCO := Lib.hid CO
      have k1 : 0 ≤ (y - 2000) * 12 + m - 1 + n := by omega
      have k2 : (y - 2000) * 12 + m - 1 + n ≤ 2399 := by omega
      clear CD CO
      rcases Int.lt_or_le dm d with hd | hd
      all_goals
        go_enter Try.func30, Try.ntmps30
        go_wp2_with fail
        refine (HS.out _).mono ?_
        rintro e w1 ⟨rfl, rfl⟩
        go_wp2_with fail
        refine (HCD.out _ _ _ (by omega) (by omega)).mono ?_
        rintro e w1 ⟨rfl, rfl⟩
        go_wp2_with fail
        refine (HCO.out _ _ _ _ (by omega) (by omega) (by omega)).mono ?_
        rintro e w1 ⟨rfl, rfl⟩
        go_wp2
        go_ret2
        exact ⟨rfl, rfl⟩

theorem months_no (day n : Int) (w : World) (h : day < 0 ∨ 73048 < day) :
    Calls Try.prog 30 #[.int .i64 day, .int .i64 n] w fun e w' => e = .returned (.tuple #[.int .i64 0, .int .i64 15]) ∧ w = w' := by
  have HS := Lib.hid (fun ww => split_no day ww h)
  clear h
  go_enter Try.func30, Try.ntmps30
  go_wp2_with fail
  refine (HS.out _).mono ?_
  rintro e w1 ⟨rfl, rfl⟩
  go_wp2
  go_ret2
  exact ⟨rfl, rfl⟩

set_option maxHeartbeats 1000000 in
theorem rmonths_any (day y m d n : Int) (w : World) (h : DM.isDate day y m d) (n1 : -9223372036854775808 ≤ n) (n2 : n ≤ 9223372036854775807) :
    Calls Try.prog 31 #[.int .i64 day, .int .i64 n] w fun e w' => e = .returned (.tuple #[.int .i64 (DM.monthsN y m d n), .int .i64 (DM.monthsE y m d n)]) ∧ w = w' := by
  have HS := Lib.hid (fun ww => rsplit_any day y m d ww h)
  obtain ⟨⟨p1, p2, p3, p4, p5, p6⟩, _⟩ := h
  have d31 := (DM.dim_range y m).2
  by_cases c1 : n < -3000
  · rw [(months_out (by omega)).1, (months_out (by omega)).2]
    go_enter Try.func31, Try.ntmps31
    go_wp2_with fail
    refine (HS.out _).mono ?_
    rintro e w1 ⟨rfl, rfl⟩
    go_wp2
    go_ret2
    exact ⟨rfl, rfl⟩
  · by_cases c2 : 3000 < n
    · rw [(months_out (by omega)).1, (months_out (by omega)).2]
      go_enter Try.func31, Try.ntmps31
      go_wp2_with fail
      refine (HS.out _).mono ?_
      rintro e w1 ⟨rfl, rfl⟩
      go_wp2
      go_ret2
      exact ⟨rfl, rfl⟩
    · obtain ⟨hn, he⟩ := months_in y m d n
      have k1 : 0 ≤ 12 * y + m - 1 + n := by omega
      have k2 : 12 * y + m - 1 + n ≤ 100000 := by omega
      have CD : ∀ (a b : Int) (ww : World), a = (12 * y + m - 1 + n) / 12 → b = (12 * y + m - 1 + n) % 12 + 1 → Calls Try.prog 20 #[.int .i64 a, .int .i64 b] ww fun e w' => e = .returned (.int .i64 (DM.dim ((12 * y + m - 1 + n) / 12) ((12 * y + m - 1 + n) % 12 + 1))) ∧ ww = w' := by
        rintro a b ww rfl rfl; exact rdays_any _ _ _
      have CO : ∀ (a b c : Int) (ww : World), a = (12 * y + m - 1 + n) / 12 → b = (12 * y + m - 1 + n) % 12 + 1 → c = min d (DM.dim ((12 * y + m - 1 + n) / 12) ((12 * y + m - 1 + n) % 12 + 1)) → Calls Try.prog 16 #[.int .i64 a, .int .i64 b, .int .i64 c] ww fun e w' => e = .returned (.tuple #[.int .i64 (DM.monthsN y m d n), .int .i64 (DM.monthsE y m d n)]) ∧ ww = w' := by
        rintro a b c ww rfl rfl rfl; rw [hn, he]; exact rof_any _ _ _ _
      generalize DM.monthsN y m d n = rn at *
      generalize DM.monthsE y m d n = re at *
      have dr := DM.dim_range ((12 * y + m - 1 + n) / 12) ((12 * y + m - 1 + n) % 12 + 1)
      clear hn he
      generalize DM.dim ((12 * y + m - 1 + n) / 12) ((12 * y + m - 1 + n) % 12 + 1) = dm at *
      obtain ⟨dr1, dr2⟩ := dr
      have HCD := Lib.hid CD; have HCO := Lib.hid CO
      clear CD CO
      by_cases hd : dm < d
      · go_enter Try.func31, Try.ntmps31
        go_wp2_with fail
        refine (HS.out _).mono ?_
        rintro e w1 ⟨rfl, rfl⟩
        go_wp2_with fail
        refine (HCD.out _ _ _ (by omega) (by omega)).mono ?_
        rintro e w1 ⟨rfl, rfl⟩
        go_wp2_with fail
        refine (HCD.out _ _ _ (by omega) (by omega)).mono ?_
        rintro e w1 ⟨rfl, rfl⟩
        go_wp2_with fail
        refine (HCO.out _ _ _ _ (by omega) (by omega) (by omega)).mono ?_
        rintro e w1 ⟨rfl, rfl⟩
        go_wp2
        go_ret2
        exact ⟨rfl, rfl⟩
      · go_enter Try.func31, Try.ntmps31
        go_wp2_with fail
        refine (HS.out _).mono ?_
        rintro e w1 ⟨rfl, rfl⟩
        go_wp2_with fail
        refine (HCD.out _ _ _ (by omega) (by omega)).mono ?_
        rintro e w1 ⟨rfl, rfl⟩
        go_wp2_with fail
        refine (HCO.out _ _ _ _ (by omega) (by omega) (by omega)).mono ?_
        rintro e w1 ⟨rfl, rfl⟩
        go_wp2
        go_ret2
        exact ⟨rfl, rfl⟩

theorem rmonths_no (day n : Int) (w : World) (h : day < 0 ∨ 73048 < day) :
    Calls Try.prog 31 #[.int .i64 day, .int .i64 n] w fun e w' => e = .returned (.tuple #[.int .i64 0, .int .i64 15]) ∧ w = w' := by
  have HS := Lib.hid (fun ww => rsplit_no day ww h)
  clear h
  go_enter Try.func31, Try.ntmps31
  go_wp2_with fail
  refine (HS.out _).mono ?_
  rintro e w1 ⟨rfl, rfl⟩
  go_wp2
  go_ret2
  exact ⟨rfl, rfl⟩

/-! the examples -/
theorem ex_of : DM.ofN 2000 2 29 = 59 ∧ DM.ofE 2000 2 29 = 0 := by decide +kernel
theorem ex_parse : DM.parN (L ⟨#[50, 48, 50, 52, 45, 48, 51, 45, 49, 53]⟩) = 8840 ∧ DM.parE (L ⟨#[50, 48, 50, 52, 45, 48, 51, 45, 49, 53]⟩) = 0 := by decide +kernel
theorem ex_nth : DM.nthN 2024 3 5 3 = 8840 ∧ DM.nthE 2024 3 5 3 = 0 := by decide +kernel
theorem ex_none : DM.parN (L ⟨#[50, 49, 48, 48, 45, 48, 50, 45, 50, 57]⟩) = 0 ∧ DM.parE (L ⟨#[50, 49, 48, 48, 45, 48, 50, 45, 50, 57]⟩) = 15 := by decide +kernel
theorem ex_week : DM.weekday 0 = 6 := by decide +kernel
theorem ex_last : DM.isDate 73048 2199 12 31 := by
  refine ⟨by decide +kernel, by decide +kernel⟩
theorem ex_print : S (DM.dateL 2199 12 31) = ⟨#[50, 49, 57, 57, 45, 49, 50, 45, 51, 49]⟩ := by decide +kernel

set_option maxHeartbeats 2000000 in
set_option maxRecDepth 100000 in
theorem goes5_any (w : World) : Calls Try.prog 21 #[] w fun e w' => e = .returned (.bool true) ∧ Below w.heap.size w w' := by
  have C1 := fun ww => of_any 2000 2 29 ww
  rw [ex_of.1, ex_of.2] at C1
  have C2 := fun ww => parse_any ⟨#[50, 48, 50, 52, 45, 48, 51, 45, 49, 53]⟩ ww (by decide)
  rw [ex_parse.1, ex_parse.2] at C2
  have C3 := fun ww => nth_any 2024 3 5 3 ww
  rw [ex_nth.1, ex_nth.2] at C3
  have C4 := fun ww => parse_any ⟨#[50, 49, 48, 48, 45, 48, 50, 45, 50, 57]⟩ ww (by decide)
  rw [ex_none.1, ex_none.2] at C4
  have C5 := fun ww => weekday_any 0 ww
  rw [ex_week] at C5
  have C6 := fun ww => print_any 73048 2199 12 31 ww ex_last
  rw [ex_print] at C6
  have H1 := Lib.hid C1; have H2 := Lib.hid C2; have H3 := Lib.hid C3; have H4 := Lib.hid C4; have H5 := Lib.hid C5; have H6 := Lib.hid C6
  clear C1 C2 C3 C4 C5 C6
  go_enter Try.func21, Try.ntmps21
  go_wp2_with fail
  refine (H1.out _).mono ?_
  rintro e w1 ⟨rfl, rfl⟩
  go_wp2_with fail
  refine (H2.out _).mono ?_
  rintro e w1 ⟨rfl, n1, rfl⟩
  go_wp2_with fail
  refine (H3.out _).mono ?_
  rintro e w2 ⟨rfl, rfl⟩
  go_wp2_with fail
  refine (H4.out _).mono ?_
  rintro e w2 ⟨rfl, n2, rfl⟩
  go_wp2_with fail
  refine (H5.out _).mono ?_
  rintro e w2 ⟨rfl, rfl⟩
  have HB := Lib.hid (below_drewN (below_drewN (Below.refl w.heap.size w) n1) n2)
  rw [World.drewN_drewN] at HB
  generalize w.drewN (n1 + n2) = w2 at *
  go_wp2_with fail
  refine (H6.out _).mono ?_
  rintro e w3 ⟨rfl, b3⟩
  have HB3 := Lib.hid (HB.out.trans (b3.mono HB.out.size))
  clear b3
  go_wp2
  go_ret
  exact ⟨rfl, HB3.out⟩
end Go.Proofs.Ythahfcehfagepaa
