/- Days and dates: one date for each day. -/
import Derived.Below
namespace DM
set_option linter.unusedVariables false

def leap (y : Int) : Bool := (decide (y.tmod 4 = 0) && decide (y.tmod 100 ≠ 0)) || decide (y.tmod 400 = 0)
def dim (y m : Int) : Int :=
  if m = 1 ∨ m = 3 ∨ m = 5 ∨ m = 7 ∨ m = 8 ∨ m = 10 ∨ m = 12 then 31
  else if m = 4 ∨ m = 6 ∨ m = 9 ∨ m = 11 then 30
  else if m = 2 then (if leap y = true then 29 else 28) else 0
def ylen (y : Int) : Int := if leap y = true then 366 else 365
/-- the days ahead of year 2000 + k -/
def before : Nat → Int
  | 0 => 0
  | k + 1 => before k + ylen (2000 + k)
/-- the days of the first j months -/
def cum (y : Int) : Nat → Int
  | 0 => 0
  | j + 1 => cum y j + dim y (j + 1)
def dayOf (y m d : Int) : Int := before (y - 2000).toNat + cum y (m - 1).toNat + d - 1
def okDate (y m d : Int) : Prop := 2000 ≤ y ∧ y ≤ 2199 ∧ 1 ≤ m ∧ m ≤ 12 ∧ 1 ≤ d ∧ d ≤ dim y m
def isDate (day y m d : Int) : Prop := okDate y m d ∧ dayOf y m d = day
instance (y m d : Int) : Decidable (okDate y m d) := by unfold okDate; infer_instance
def ofE (y m d : Int) : Int := if okDate y m d then 0 else 15
def ofN (y m d : Int) : Int := if okDate y m d then dayOf y m d else 0
def weekday (day : Int) : Int := if 0 ≤ day ∧ day ≤ 73048 then (day + 5) % 7 + 1 else 0

theorem dim_range (y m : Int) : 0 ≤ dim y m ∧ dim y m ≤ 31 := by unfold dim; split <;> (try split) <;> (try split) <;> (try split) <;> omega
theorem dim_real {y m : Int} (h : 1 ≤ m ∧ m ≤ 12) : 28 ≤ dim y m := by
  unfold dim
  split
  · omega
  · split
    · omega
    · split
      · split <;> omega
      · omega
theorem dim_out {y m : Int} (h : m < 1 ∨ 12 < m) : dim y m = 0 := by
  unfold dim
  rw [if_neg (by omega), if_neg (by omega), if_neg (by omega)]
theorem month_of {y m d : Int} (h1 : 1 ≤ d) (h2 : d ≤ dim y m) : 1 ≤ m ∧ m ≤ 12 := by
  by_cases h : 1 ≤ m ∧ m ≤ 12
  · exact h
  · rw [dim_out (by omega)] at h2; omega
theorem ylen_range (y : Int) : 365 ≤ ylen y ∧ ylen y ≤ 366 := by unfold ylen; split <;> omega
theorem cum_year (y : Int) : cum y 12 = ylen y := by
  unfold ylen
  simp only [cum, dim]
  by_cases h : leap y = true
  · simp [h]
  · simp [h]
theorem before_mono {j k : Nat} (h : j ≤ k) : before j ≤ before k := by
  induction k with
  | zero => rw [Nat.le_zero.1 h]; exact Int.le_refl _
  | succ k ih =>
    rcases Nat.lt_or_ge k j with h1 | h1
    · rw [show j = k + 1 by omega]; exact Int.le_refl _
    · have := ih h1
      have := ylen_range (2000 + k)
      rw [show before (k + 1) = before k + ylen (2000 + k) from rfl]; omega
theorem cum_mono {y : Int} {j k : Nat} (h : j ≤ k) : cum y j ≤ cum y k := by
  induction k with
  | zero => rw [Nat.le_zero.1 h]; exact Int.le_refl _
  | succ k ih =>
    rcases Nat.lt_or_ge k j with h1 | h1
    · rw [show j = k + 1 by omega]; exact Int.le_refl _
    · have := ih h1
      have := dim_range y (k + 1)
      rw [show cum y (k + 1) = cum y k + dim y (k + 1) from rfl]; omega
set_option maxRecDepth 100000 in
theorem before_all : before 200 = 73049 := by decide
/-- where a date's day lies -/
theorem day_in {y m d : Int} (h : okDate y m d) : before (y - 2000).toNat + cum y (m - 1).toNat ≤ dayOf y m d ∧ dayOf y m d < before (y - 2000).toNat + cum y ((m - 1).toNat + 1) ∧
    before (y - 2000).toNat ≤ dayOf y m d ∧ dayOf y m d < before ((y - 2000).toNat + 1) ∧ 0 ≤ dayOf y m d ∧ dayOf y m d ≤ 73048 := by
  obtain ⟨h1, h2, h3, h4, h5, h6⟩ := h
  have e : (((m - 1).toNat : Nat) : Int) + 1 = m := by omega
  have e2 : (2000 : Int) + ((y - 2000).toNat : Nat) = y := by omega
  have c0 : 0 ≤ cum y (m - 1).toNat := cum_mono (y := y) (Nat.zero_le _)
  have c1 : cum y ((m - 1).toNat + 1) = cum y (m - 1).toNat + dim y m := by show cum y _ + dim y _ = _; rw [e]
  have c2 : cum y ((m - 1).toNat + 1) ≤ cum y 12 := cum_mono (by omega)
  rw [cum_year] at c2
  have b0 : 0 ≤ before (y - 2000).toNat := before_mono (Nat.zero_le _)
  have b1 : before ((y - 2000).toNat + 1) = before (y - 2000).toNat + ylen y := by show before _ + ylen _ = _; rw [e2]
  have b2 : before ((y - 2000).toNat + 1) ≤ before 200 := before_mono (by omega)
  rw [before_all] at b2
  unfold dayOf
  omega
theorem isDate_unique {day y m d y' m' d' : Int} (h : isDate day y m d) (h' : isDate day y' m' d') : y = y' ∧ m = m' ∧ d = d' := by
  obtain ⟨h1, rfl⟩ := h
  obtain ⟨h2, e⟩ := h'
  obtain ⟨a1, a2, a3, a4, _⟩ := day_in h1
  obtain ⟨b1, b2, b3, b4, _⟩ := day_in h2
  rw [e] at b1 b2 b3 b4
  have g1 := h1
  have g2 := h2
  obtain ⟨p1, p2, p3, p4, p5, p6⟩ := h1
  obtain ⟨q1, q2, q3, q4, q5, q6⟩ := h2
  have hy : y = y' := by
    rcases Int.lt_trichotomy y y' with h | h | h
    · have := before_mono (show (y - 2000).toNat + 1 ≤ (y' - 2000).toNat by omega); omega
    · exact h
    · have := before_mono (show (y' - 2000).toNat + 1 ≤ (y - 2000).toNat by omega); omega
  subst hy
  have hm : m = m' := by
    rcases Int.lt_trichotomy m m' with h | h | h
    · have := cum_mono (y := y) (show (m - 1).toNat + 1 ≤ (m' - 1).toNat by omega); omega
    · exact h
    · have := cum_mono (y := y) (show (m' - 1).toNat + 1 ≤ (m - 1).toNat by omega); omega
  subst hm
  refine ⟨rfl, rfl, ?_⟩
  unfold dayOf at e
  omega
/-- between two steps of a rising row there is a place -/
theorem place (f : Nat → Int) (x : Int) (n : Nat) (h0 : f 0 ≤ x) (h1 : x < f n) : ∃ k, k < n ∧ f k ≤ x ∧ x < f (k + 1) := by
  induction n with
  | zero => omega
  | succ n ih =>
    by_cases h : f n ≤ x
    · exact ⟨n, by omega, h, h1⟩
    · obtain ⟨k, hk, r⟩ := ih (by omega)
      exact ⟨k, by omega, r⟩
theorem isDate_exists {day : Int} (h0 : 0 ≤ day) (h1 : day ≤ 73048) : ∃ y m d, isDate day y m d := by
  obtain ⟨k, hk, k1, k2⟩ := place before day 200 h0 (by rw [before_all]; omega)
  have e : before (k + 1) = before k + ylen (2000 + k) := rfl
  obtain ⟨j, hj, j1, j2⟩ := place (cum (2000 + k)) (day - before k) 12 (by show (0 : Int) ≤ _; omega) (by rw [cum_year]; omega)
  have e2 : cum (2000 + (k : Int)) (j + 1) = cum (2000 + k) j + dim (2000 + k) (j + 1) := rfl
  refine ⟨2000 + k, j + 1, day - before k - cum (2000 + k) j + 1, ⟨by omega, by omega, by omega, by omega, by omega, by omega⟩, ?_⟩
  unfold dayOf
  rw [show ((2000 : Int) + k - 2000).toNat = k by omega, show ((j : Int) + 1 - 1).toNat = j by omega]
  omega
/-- the next day -/
theorem isDate_next {day y m d : Int} (h : isDate day y m d) (hl : day < 73048) :
    isDate (day + 1) (if d < dim y m then y else if m < 12 then y else y + 1) (if d < dim y m then m else if m < 12 then m + 1 else 1) (if d < dim y m then d + 1 else 1) := by
  obtain ⟨⟨p1, p2, p3, p4, p5, p6⟩, e⟩ := h
  by_cases h1 : d < dim y m
  · simp only [h1, if_true]
    exact ⟨⟨p1, p2, p3, p4, by omega, by omega⟩, by unfold dayOf at *; omega⟩
  · have hd : d = dim y m := by omega
    by_cases h2 : m < 12
    · simp only [h1, h2, if_false, if_true]
      have := dim_real (y := y) (m := m + 1) (by omega)
      refine ⟨⟨p1, p2, by omega, by omega, by omega, by omega⟩, ?_⟩
      have c : cum y (m + 1 - 1).toNat = cum y (m - 1).toNat + dim y m := by
        rw [show (m + 1 - 1).toNat = (m - 1).toNat + 1 by omega]
        show cum y _ + dim y _ = _
        rw [show (((m - 1).toNat : Nat) : Int) + 1 = m by omega]
      unfold dayOf at *
      omega
    · simp only [h1, h2, if_false]
      have hm : m = 12 := by omega
      subst hm
      have c : cum y 12 = cum y 11 + dim y 12 := rfl
      rw [cum_year] at c
      have b : before (y + 1 - 2000).toNat = before (y - 2000).toNat + ylen y := by
        rw [show (y + 1 - 2000).toNat = (y - 2000).toNat + 1 by omega]
        show before _ + ylen _ = _
        rw [show (2000 : Int) + ((y - 2000).toNat : Nat) = y by omega]
      have e' : dayOf y 12 d = before (y - 2000).toNat + cum y 11 + d - 1 := rfl
      have hy : y < 2199 := by
        rcases Int.lt_or_eq_of_le p2 with q | q
        · exact q
        · exfalso
          subst q
          have b3 : before ((2199 : Int) + 1 - 2000).toNat = 73049 := before_all
          omega
      have := dim_real (y := y + 1) (m := 1) (by omega)
      refine ⟨⟨by omega, by omega, by omega, by omega, by omega, by omega⟩, ?_⟩
      show before (y + 1 - 2000).toNat + 0 + 1 - 1 = day + 1
      omega
theorem weekday_next {day : Int} (h0 : 0 ≤ day) (h1 : day < 73048) : weekday (day + 1) = weekday day % 7 + 1 := by
  unfold weekday
  rw [if_pos (by omega), if_pos (by omega)]; omega

/-! months on -/
def monthsE (y m d n : Int) : Int := let k := 12 * y + m - 1 + n
  ofE (k / 12) (k % 12 + 1) (min d (dim (k / 12) (k % 12 + 1)))
def monthsN (y m d n : Int) : Int := let k := 12 * y + m - 1 + n
  ofN (k / 12) (k % 12 + 1) (min d (dim (k / 12) (k % 12 + 1)))
theorem months_back {y m d n : Int} (h : okDate y m d) (he : monthsE y m d n = 0) :
    ∃ y2 m2 d2, isDate (monthsN y m d n) y2 m2 d2 ∧ monthsE y2 m2 d2 (-n) = 0 ∧ monthsN y2 m2 d2 (-n) ≤ dayOf y m d ∧ dayOf y m d - monthsN y2 m2 d2 (-n) ≤ 3 := by
  obtain ⟨p1, p2, p3, p4, p5, p6⟩ := h
  unfold monthsE at he
  unfold monthsN
  simp only at he ⊢
  generalize hk : 12 * y + m - 1 + n = k at *
  have hok : okDate (k / 12) (k % 12 + 1) (min d (dim (k / 12) (k % 12 + 1))) := by
    unfold ofE at he; split at he
    · assumption
    · omega
  have r := dim_real (y := k / 12) (m := k % 12 + 1) (by omega)
  have r2 := (dim_range y m).2
  refine ⟨k / 12, k % 12 + 1, min d (dim (k / 12) (k % 12 + 1)), ⟨hok, by unfold ofN; rw [if_pos hok]⟩, ?_⟩
  have e : 12 * (k / 12) + (k % 12 + 1) - 1 + -n = 12 * y + m - 1 := by omega
  have e1 : (12 * y + m - 1) / 12 = y := by omega
  have e2 : (12 * y + m - 1) % 12 + 1 = m := by omega
  unfold monthsE
  simp only
  rw [e, e1, e2]
  generalize dim (k / 12) (k % 12 + 1) = q at *
  have e3 : min (min d q) (dim y m) = min d q := by omega
  rw [e3]
  have hok2 : okDate y m (min d q) := ⟨p1, p2, p3, p4, by omega, by omega⟩
  unfold ofE ofN
  rw [if_pos hok2, if_pos hok2]
  unfold dayOf
  refine ⟨rfl, by omega, by omega⟩
end DM
