/- Days ahead of a year, by counting leap years. -/
import Derived.Test.YthahfcehfagepaaDateMath2
namespace DM
set_option linter.unusedVariables false

def lu (y : Int) : Int := y.tdiv 4 - y.tdiv 100 + y.tdiv 400
def ys (y : Int) : Int := (y - 2000) * 365 + lu (y - 1) - lu 1999
theorem tdiv_pos {y k : Int} (h : 0 ≤ y) : y.tdiv k = y / k := Int.tdiv_eq_ediv_of_nonneg h
theorem tmod_pos {y k : Int} (h : 0 ≤ y) : y.tmod k = y % k := Int.tmod_eq_emod_of_nonneg h
theorem lu_step {y : Int} (h : 1 ≤ y) : lu y = lu (y - 1) + (if leap y = true then 1 else 0) := by
  unfold lu leap
  rw [tdiv_pos (by omega), tdiv_pos (by omega), tdiv_pos (by omega), tdiv_pos (by omega), tdiv_pos (by omega), tdiv_pos (by omega), tmod_pos (by omega), tmod_pos (by omega), tmod_pos (by omega)]
  by_cases h4 : y % 4 = 0 <;> by_cases h1 : y % 100 = 0 <;> by_cases h400 : y % 400 = 0 <;> simp [h4, h1, h400] <;> omega
theorem lu_range {y : Int} (h0 : 0 ≤ y) (h1 : y ≤ 10000) : 0 ≤ lu y ∧ lu y ≤ 10000 := by
  unfold lu
  rw [tdiv_pos h0, tdiv_pos h0, tdiv_pos h0]; omega
theorem ys_before (k : Nat) : ys (2000 + k) = before k := by
  induction k with
  | zero => decide
  | succ k ih =>
    have s := lu_step (y := 2000 + k) (by omega)
    have e : before (k + 1) = before k + ylen (2000 + k) := rfl
    rw [e, ← ih]
    unfold ys ylen
    rw [show (2000 : Int) + ((k + 1 : Nat) : Int) - 1 = 2000 + k by omega, s]
    split <;> omega
theorem ys_at {y : Int} (h : 2000 ≤ y) : ys y = before (y - 2000).toNat := by
  rw [← ys_before, show (2000 : Int) + ((y - 2000).toNat : Nat) = y by omega]
theorem before_range {k : Nat} (h : k ≤ 200) : 0 ≤ before k ∧ before k ≤ 73049 := by
  have a := before_mono (Nat.zero_le k)
  have b := before_mono h
  rw [before_all] at b
  exact ⟨a, b⟩
theorem cum_range (y : Int) (j : Nat) (h : j ≤ 12) : 0 ≤ cum y j ∧ cum y j ≤ 366 := by
  have a := cum_mono (y := y) (Nat.zero_le j)
  have b := cum_mono (y := y) h
  rw [cum_year] at b
  have := (ylen_range y).2
  exact ⟨a, by omega⟩
theorem cum_succ (y : Int) (j : Nat) : cum y (j + 1) = cum y j + dim y (j + 1) := rfl
theorem before_succ (k : Nat) : before (k + 1) = before k + ylen (2000 + k) := rfl
theorem before_ge (k : Nat) : 365 * (k : Int) ≤ before k := by
  induction k with
  | zero => decide
  | succ k ih => have := (ylen_range (2000 + k)).1; rw [before_succ]; omega
theorem before_le (k : Nat) : before k ≤ 366 * (k : Int) := by
  induction k with
  | zero => decide
  | succ k ih => have := (ylen_range (2000 + k)).2; rw [before_succ]; omega
def isd (d : Int) : Bool := decide (0 ≤ d ∧ d ≤ 73048)
theorem isd_true {d : Int} (h0 : 0 ≤ d) (h1 : d ≤ 73048) : isd d = true := decide_eq_true ⟨h0, h1⟩
theorem isd_false {d : Int} (h : d < 0 ∨ 73048 < d) : isd d = false := decide_eq_false (by omega)
theorem isd_of {d : Int} (h : isd d = true) : 0 ≤ d ∧ d ≤ 73048 := of_decide_eq_true h
theorem isd_no {d : Int} (h : isd d = false) : d < 0 ∨ 73048 < d := by have := of_decide_eq_false h; omega
end DM
namespace DM
/-! how a day's year and month are found -/
theorem split_year {day y m d : Int} (h : isDate day y m d) (k : Nat) : before (k + 1) ≤ day ↔ k < (y - 2000).toNat := by
  obtain ⟨h1, rfl⟩ := h
  obtain ⟨_, _, a3, a4, _⟩ := day_in h1
  constructor
  · intro h
    rcases Nat.lt_or_ge k (y - 2000).toNat with g | g
    · exact g
    · have := before_mono (show (y - 2000).toNat + 1 ≤ k + 1 by omega); omega
  · intro h
    have := before_mono (show k + 1 ≤ (y - 2000).toNat by omega); omega
theorem split_month {day y m d : Int} (h : isDate day y m d) (j : Nat) : cum y (j + 1) ≤ day - before (y - 2000).toNat ↔ j < (m - 1).toNat := by
  obtain ⟨h1, rfl⟩ := h
  obtain ⟨a1, a2, _, _, _⟩ := day_in h1
  constructor
  · intro h
    rcases Nat.lt_or_ge j (m - 1).toNat with g | g
    · exact g
    · have := cum_mono (y := y) (show (m - 1).toNat + 1 ≤ j + 1 by omega); omega
  · intro h
    have := cum_mono (y := y) (show j + 1 ≤ (m - 1).toNat by omega); omega
theorem split_start {day y m d : Int} (h : isDate day y m d) : day / 366 ≤ (y - 2000).toNat := by
  obtain ⟨h1, rfl⟩ := h
  obtain ⟨_, _, _, a4, a5, _⟩ := day_in h1
  have := before_le ((y - 2000).toNat + 1)
  omega
theorem split_day {day y m d : Int} (h : isDate day y m d) : day - before (y - 2000).toNat - cum y (m - 1).toNat + 1 = d ∧ 0 ≤ day - before (y - 2000).toNat ∧ day - before (y - 2000).toNat ≤ 366 ∧ 0 ≤ day ∧ day ≤ 73048 := by
  obtain ⟨h1, e⟩ := h
  obtain ⟨_, _, a3, a4, a5, a6⟩ := day_in h1
  have b := before_succ (y - 2000).toNat
  have := (ylen_range (2000 + ((y - 2000).toNat : Nat))).2
  rw [e] at a3 a4 a5 a6
  unfold dayOf at e
  omega
theorem day_cases (day : Int) : (day < 0 ∨ 73048 < day) ∨ ∃ y m d, isDate day y m d := by
  by_cases h : day < 0 ∨ 73048 < day
  · exact .inl h
  · exact .inr (isDate_exists (by omega) (by omega))
end DM
