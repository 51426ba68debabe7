/- Contracts: a day's text. -/
import Derived.Test.YthahfcehfagepaaDateD
namespace Go.Proofs.Ythahfcehfagepaa
open Go.RowKit
set_option linter.unusedVariables false

theorem ch_of_mod {a b : Int} (h : a % 10 = b % 10) : DM.ch a = DM.ch b := by unfold DM.ch; rw [h]
theorem date_cat {y m d : Int} : S [DM.ch (y / 100 / 10), DM.ch (y / 100)] ++ S [DM.ch (y % 100 / 10), DM.ch (y % 100)] ++ ⟨#[45]⟩ ++ S [DM.ch (m / 10), DM.ch m] ++ ⟨#[45]⟩ ++ S [DM.ch (d / 10), DM.ch d] = S (DM.dateL y m d) := by
  apply L_inj
  rw [L_append, L_append, L_append, L_append, L_append, L_S, L_S, L_S, L_S, L_S]
  unfold DM.dateL
  rw [ch_of_mod (a := y / 100 / 10) (b := y / 1000) (by omega), ch_of_mod (a := y % 100 / 10) (b := y / 10) (by omega), ch_of_mod (a := y % 100) (b := y) (by omega)]
  rfl

set_option maxHeartbeats 1000000 in
theorem print_any (day y m d : Int) (w : World) (h : DM.isDate day y m d) :
    Calls Try.prog 26 #[.int .i64 day] w fun e w' => e = .returned (.string (S (DM.dateL y m d))) ∧ Below w.heap.size w w' := by
  have CS := split_any day y m d w h
  rw [← date_cat]
  obtain ⟨⟨p1, p2, p3, p4, p5, p6⟩, _⟩ := h
  have d31 := (DM.dim_range y m).2
  have C1 := fun ww => twoDigits_any (y / 100) ww (by omega) (by omega)
  have C2 := fun ww => twoDigits_any (y % 100) ww (by omega) (by omega)
  have C3 := fun ww => twoDigits_any m ww (by omega) (by omega)
  have C4 := fun ww => twoDigits_any d ww (by omega) (by omega)
  have s1 : (S [DM.ch (y / 100 / 10), DM.ch (y / 100)]).size ≤ 2 := Nat.le_of_eq (S_size _)
  generalize S [DM.ch (y / 100 / 10), DM.ch (y / 100)] = t1 at *
  have s2 : (S [DM.ch (y % 100 / 10), DM.ch (y % 100)]).size ≤ 2 := Nat.le_of_eq (S_size _)
  generalize S [DM.ch (y % 100 / 10), DM.ch (y % 100)] = t2 at *
  have s3 : (S [DM.ch (m / 10), DM.ch m]).size ≤ 2 := Nat.le_of_eq (S_size _)
  generalize S [DM.ch (m / 10), DM.ch m] = t3 at *
  have s4 : (S [DM.ch (d / 10), DM.ch d]).size ≤ 2 := Nat.le_of_eq (S_size _)
  generalize S [DM.ch (d / 10), DM.ch d] = t4 at *
  have HS := Lib.hid CS; have H1 := Lib.hid C1; have H2 := Lib.hid C2; have H3 := Lib.hid C3; have H4 := Lib.hid C4
  clear CS C1 C2 C3 C4
  go_enter Try.func26, Try.ntmps26
  go_wp2_with fail
  refine HS.out.mono ?_
  rintro e w1 ⟨rfl, rfl⟩
  go_wp2_with fail
  refine (H1.out _).mono ?_
  rintro e w1 ⟨rfl, b1⟩
  have B1 := Lib.hid b1
  clear b1
  go_wp2_with fail
  refine (H2.out _).mono ?_
  rintro e w2 ⟨rfl, b2⟩
  have B2 := Lib.hid (B1.out.trans (b2.mono B1.out.size))
  clear b2 B1
  go_wp2_with fail
  refine (H3.out _).mono ?_
  rintro e w3 ⟨rfl, b3⟩
  have B3 := Lib.hid (B2.out.trans (b3.mono B2.out.size))
  clear b3 B2
  go_wp2_with fail
  refine (H4.out _).mono ?_
  rintro e w4 ⟨rfl, b4⟩
  have B4 := Lib.hid (B3.out.trans (b4.mono B3.out.size))
  clear b4 B3
  go_wp2
  go_ret
  exact ⟨rfl, B4.out⟩

theorem print_no (day : Int) (w : World) (h : day < 0 ∨ 73048 < day) :
    Calls Try.prog 26 #[.int .i64 day] w fun e w' => e = .returned (.string ⟨#[]⟩) ∧ w = w' := by
  have HS := Lib.hid (split_no day w h)
  clear h
  go_enter Try.func26, Try.ntmps26
  go_wp2_with fail
  refine HS.out.mono ?_
  rintro e w1 ⟨rfl, rfl⟩
  go_wp2
  go_ret
  exact ⟨rfl, rfl⟩

set_option maxHeartbeats 1000000 in
theorem rprint_any (day y m d : Int) (w : World) (h : DM.isDate day y m d) :
    Calls Try.prog 27 #[.int .i64 day] w fun e w' => e = .returned (.string (S (DM.dateL y m d))) ∧ ∃ k, w' = w.drewN k := by
  have CS := rsplit_any day y m d w h
  rw [← date_cat]
  obtain ⟨⟨p1, p2, p3, p4, p5, p6⟩, _⟩ := h
  have d31 := (DM.dim_range y m).2
  have C1 := fun ww => two_any (y / 100) ww (by omega) (by omega)
  have C2 := fun ww => two_any (y % 100) ww (by omega) (by omega)
  have C3 := fun ww => two_any m ww (by omega) (by omega)
  have C4 := fun ww => two_any d ww (by omega) (by omega)
  have s1 : (S [DM.ch (y / 100 / 10), DM.ch (y / 100)]).size ≤ 2 := Nat.le_of_eq (S_size _)
  generalize S [DM.ch (y / 100 / 10), DM.ch (y / 100)] = t1 at *
  have s2 : (S [DM.ch (y % 100 / 10), DM.ch (y % 100)]).size ≤ 2 := Nat.le_of_eq (S_size _)
  generalize S [DM.ch (y % 100 / 10), DM.ch (y % 100)] = t2 at *
  have s3 : (S [DM.ch (m / 10), DM.ch m]).size ≤ 2 := Nat.le_of_eq (S_size _)
  generalize S [DM.ch (m / 10), DM.ch m] = t3 at *
  have s4 : (S [DM.ch (d / 10), DM.ch d]).size ≤ 2 := Nat.le_of_eq (S_size _)
  generalize S [DM.ch (d / 10), DM.ch d] = t4 at *
  have HS := Lib.hid CS; have H1 := Lib.hid C1; have H2 := Lib.hid C2; have H3 := Lib.hid C3; have H4 := Lib.hid C4
  clear CS C1 C2 C3 C4
  go_enter Try.func27, Try.ntmps27
  go_wp2_with fail
  refine HS.out.mono ?_
  rintro e w1 ⟨rfl, rfl⟩
  go_wp2_with fail
  refine (H1.out _).mono ?_
  rintro e w1 ⟨rfl, n1, rfl⟩
  go_wp2_with fail
  refine (H2.out _).mono ?_
  rintro e w2 ⟨rfl, n2, rfl⟩
  go_wp2_with fail
  refine (H3.out _).mono ?_
  rintro e w3 ⟨rfl, n3, rfl⟩
  go_wp2_with fail
  refine (H4.out _).mono ?_
  rintro e w4 ⟨rfl, n4, rfl⟩
  go_wp2
  go_ret
  exact ⟨rfl, _, rfl⟩

theorem rprint_no (day : Int) (w : World) (h : day < 0 ∨ 73048 < day) :
    Calls Try.prog 27 #[.int .i64 day] w fun e w' => e = .returned (.string ⟨#[]⟩) ∧ w = w' := by
  have HS := Lib.hid (rsplit_no day w h)
  clear h
  go_enter Try.func27, Try.ntmps27
  go_wp2_with fail
  refine HS.out.mono ?_
  rintro e w1 ⟨rfl, rfl⟩
  go_wp2
  go_ret
  exact ⟨rfl, rfl⟩
end Go.Proofs.Ythahfcehfagepaa
