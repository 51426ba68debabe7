import Derived.Test.YthahfcehfagepaaDateJ
namespace Go.Proofs.Ythahfcehfagepaa.dateNext
open Go.RowKit
set_option linter.unusedVariables false

set_option maxHeartbeats 2000000 in
set_option maxRecDepth 100000 in
theorem walk (day : Int) (w : World) (w0 : -9223372036854775808 ≤ day ∧ day ≤ 9223372036854775807) :
    Calls Try.prog 8 #[.int .i64 day] w fun e w' => e = .returned (.bool true) ∧ Below w.heap.size w w' := by
  by_cases hd : day < 0 ∨ 73048 ≤ day
  · have : day < 0 ∨ (0 ≤ day ∧ 73048 ≤ day) := by omega
    clear hd
    rcases this with h | ⟨h, h2⟩
    all_goals
      go_enter Try.func8, Try.ntmps8
      go_wp2_with fail
      refine (goes5_any _).mono ?_
      rintro e w1 ⟨rfl, b1⟩
      go_wp2
      go_ret
      exact ⟨rfl, b1⟩
  · have d1 : 0 ≤ day := by omega
    have d2 : day < 73048 := by omega
    obtain ⟨y, m, d, h⟩ := DM.isDate_exists d1 (by omega)
    obtain ⟨y2, m2, d2', h2⟩ := DM.isDate_exists (day := day + 1) (by omega) (by omega)
    have H1 := Lib.hid (fun ww => split_any day y m d ww h); have H2 := Lib.hid (fun ww => split_any (day + 1) y2 m2 d2' ww h2)
    have H3 := Lib.hid (fun ww => print_any day y m d ww h); have H4 := Lib.hid (fun ww => print_any (day + 1) y2 m2 d2' ww h2)
    have hl := DM.dateL_next h h2 d2
    have hn := DM.isDate_unique (DM.isDate_next h d2) h2
    have C5 := fun ww => weekday_any day ww
    have C6 := fun ww => weekday_any (day + 1) ww
    have hw := DM.weekday_next d1 d2
    have hw1 : 1 ≤ DM.weekday day ∧ DM.weekday day ≤ 7 := by rw [DM.weekday_in d1 (by omega)]; omega
    rw [hw] at C6
    have C7 := fun ww => days_any y m ww
    have dr := (DM.dim_range y m).2
    have p6 := h.1.2.2.2.2.2
    have p5 := h.1.2.2.2.2.1
    have p1 := h.1.1
    have p2 := h.1.2.1
    have p3 := h.1.2.2.1
    have p4 := h.1.2.2.2.1
    obtain ⟨hw1, hw2⟩ := hw1
    generalize DM.weekday day = wk at *
    generalize DM.dim y m = dm at *
    have e1 := L_S (DM.dateL y m d)
    have e2 := L_S (DM.dateL y2 m2 d2')
    rw [← e1, ← e2, ← L_toList, ← L_toList] at hl
    clear e1 e2
    generalize S (DM.dateL y m d) = t1 at *
    generalize S (DM.dateL y2 m2 d2') = t2 at *
    have H5 := Lib.hid C5; have H6 := Lib.hid C6; have H7 := Lib.hid C7
    have hcase : (d < dm ∧ y2 = y ∧ m2 = m ∧ d2' = d + 1) ∨ (¬ d < dm ∧ m < 12 ∧ y2 = y ∧ m2 = m + 1 ∧ d2' = 1) ∨ (¬ d < dm ∧ ¬ m < 12 ∧ y2 = y + 1 ∧ m2 = 1 ∧ d2' = 1) := by
      obtain ⟨a, b, c⟩ := hn
      by_cases c1 : d < dm
      · simp only [c1, if_true] at a b c
        exact .inl ⟨c1, a.symm, b.symm, c.symm⟩
      · by_cases c2 : m < 12
        · simp only [c1, c2, if_false, if_true] at a b c
          exact .inr (.inl ⟨c1, c2, a.symm, b.symm, c.symm⟩)
        · simp only [c1, c2, if_false] at a b c
          exact .inr (.inr ⟨c1, c2, a.symm, b.symm, c.symm⟩)
    clear h h2 C5 C6 C7 hd hn hw
    rcases hcase with ⟨c1, rfl, rfl, rfl⟩ | ⟨c1, c2, rfl, rfl, rfl⟩ | ⟨c1, c2, rfl, rfl, rfl⟩
    all_goals
      go_enter Try.func8, Try.ntmps8
      go_wp2_with fail
      refine (H1.out _).mono ?_
      rintro e w1 ⟨rfl, rfl⟩
      go_wp2_with fail
      refine (H2.out _).mono ?_
      rintro e w1 ⟨rfl, rfl⟩
      go_wp2_with fail
      refine (H3.out _).mono ?_
      rintro e w1 ⟨rfl, b1⟩
      have HB1 := Lib.hid b1
      clear b1
      go_wp2_with fail
      refine (H4.out _).mono ?_
      rintro e w2 ⟨rfl, b2⟩
      have HB2 := Lib.hid (HB1.out.trans (b2.mono HB1.out.size))
      clear b2 HB1
      go_wp2_with fail
      refine (H6.out _).mono ?_
      rintro e w3 ⟨rfl, rfl⟩
      go_wp2_with fail
      refine (H5.out _).mono ?_
      rintro e w3 ⟨rfl, rfl⟩
      go_wp2_with fail
      refine (H7.out _).mono ?_
      rintro e w3 ⟨rfl, rfl⟩
      go_wp2_with fail
      refine (goes5_any _).mono ?_
      rintro e w3 ⟨rfl, b3⟩
      have HB3 := Lib.hid (HB2.out.trans (b3.mono HB2.out.size))
      clear b3 HB2
      go_wp2
      go_ret
      exact ⟨rfl, HB3.out⟩
end Go.Proofs.Ythahfcehfagepaa.dateNext
