import Derived.Test.YthahfcehfagepaaDateJ
namespace Go.Proofs.Ythahfcehfagepaa.dateSplits
open Go.RowKit
set_option linter.unusedVariables false

set_option maxHeartbeats 2000000 in
set_option maxRecDepth 100000 in
theorem walk (day : Int) (w : World) (w0 : -9223372036854775808 ≤ day ∧ day ≤ 9223372036854775807) :
    Calls Try.prog 4 #[.int .i64 day] w fun e w' => e = .returned (.bool true) ∧ Below w.heap.size w w' := by
  have HW := Lib.hid (fun ww => weekday_any day ww); have HRW := Lib.hid (fun ww => rweekday_any day ww)
  generalize DM.weekday day = wk at *
  rcases DM.day_cases day with h | ⟨y, m, d, h⟩
  · have H1 := Lib.hid (fun ww => split_no day ww h); have H2 := Lib.hid (fun ww => rsplit_no day ww h)
    have H3 := Lib.hid (fun ww => print_no day ww h); have H4 := Lib.hid (fun ww => rprint_no day ww h)
    clear h
    go_enter Try.func4, Try.ntmps4
    go_wp2_with fail
    refine (H1.out _).mono ?_
    rintro e w1 ⟨rfl, rfl⟩
    go_wp2_with fail
    refine (H2.out _).mono ?_
    rintro e w1 ⟨rfl, rfl⟩
    go_wp2_with fail
    refine (HW.out _).mono ?_
    rintro e w1 ⟨rfl, rfl⟩
    go_wp2_with fail
    refine (HRW.out _).mono ?_
    rintro e w1 ⟨rfl, rfl⟩
    go_wp2_with fail
    refine (H3.out _).mono ?_
    rintro e w1 ⟨rfl, rfl⟩
    go_wp2_with fail
    refine (H4.out _).mono ?_
    rintro e w1 ⟨rfl, rfl⟩
    go_wp2_with fail
    refine (H3.out _).mono ?_
    rintro e w1 ⟨rfl, rfl⟩
    go_wp2_with fail
    refine (goes5_any _).mono ?_
    rintro e w1 ⟨rfl, b1⟩
    go_wp2
    go_ret
    exact ⟨rfl, b1⟩
  · have H1 := Lib.hid (fun ww => split_any day y m d ww h); have H2 := Lib.hid (fun ww => rsplit_any day y m d ww h)
    have H3 := Lib.hid (fun ww => print_any day y m d ww h); have H4 := Lib.hid (fun ww => rprint_any day y m d ww h)
    have C5 := fun ww => of_any y m d ww
    rw [(ofYes h.1).1, (ofYes h.1).2, h.2] at C5
    have C6 := fun ww => parse_any (S (DM.dateL y m d)) ww (by rw [S_size]; simp [DM.dateL])
    rw [L_S, (DM.par_text h).1, (DM.par_text h).2] at C6
    have H5 := Lib.hid C5; have H6 := Lib.hid C6
    generalize S (DM.dateL y m d) = t at *
    clear h C5 C6
    go_enter Try.func4, Try.ntmps4
    go_wp2_with fail
    refine (H1.out _).mono ?_
    rintro e w1 ⟨rfl, rfl⟩
    go_wp2_with fail
    refine (H2.out _).mono ?_
    rintro e w1 ⟨rfl, rfl⟩
    go_wp2_with fail
    refine (HW.out _).mono ?_
    rintro e w1 ⟨rfl, rfl⟩
    go_wp2_with fail
    refine (HRW.out _).mono ?_
    rintro e w1 ⟨rfl, rfl⟩
    go_wp2_with fail
    refine (H3.out _).mono ?_
    rintro e w1 ⟨rfl, b1⟩
    have HB1 := Lib.hid b1
    clear b1
    go_wp2_with fail
    refine (H4.out _).mono ?_
    rintro e w2 ⟨rfl, n2, rfl⟩
    have HB2 := Lib.hid (below_drewN HB1.out n2)
    generalize w1.drewN n2 = w2 at *
    clear HB1
    go_wp2_with fail
    refine (H5.out _).mono ?_
    rintro e w3 ⟨rfl, rfl⟩
    go_wp2_with fail
    refine (H3.out _).mono ?_
    rintro e w3 ⟨rfl, b3⟩
    have HB3 := Lib.hid (HB2.out.trans (b3.mono HB2.out.size))
    clear b3 HB2
    go_wp2_with fail
    refine (H6.out _).mono ?_
    rintro e w4 ⟨rfl, n4, rfl⟩
    have HB4 := Lib.hid (below_drewN HB3.out n4)
    generalize w3.drewN n4 = w4 at *
    clear HB3
    go_wp2_with fail
    refine (goes5_any _).mono ?_
    rintro e w5 ⟨rfl, b5⟩
    have HB5 := Lib.hid (HB4.out.trans (b5.mono HB4.out.size))
    clear b5 HB4
    go_wp2
    go_ret
    exact ⟨rfl, HB5.out⟩
end Go.Proofs.Ythahfcehfagepaa.dateSplits
