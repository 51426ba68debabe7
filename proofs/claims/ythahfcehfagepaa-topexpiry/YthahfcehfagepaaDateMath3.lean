/- Dates' texts rise with the days. -/
import Derived.Test.YthahfcehfagepaaDateMath2
namespace DM
set_option linter.unusedVariables false
open Go

theorem ls_same (c : UInt8) (x y : List UInt8) : Op.bytesLess (c :: x) (c :: y) = Op.bytesLess x y := by
  have h : ¬ c < c := by intro h; have := UInt8.lt_iff_toNat_lt.1 h; omega
  simp [Op.bytesLess, h]
theorem ls_lt {a b : Int} (h : a % 10 < b % 10) (x y : List UInt8) : Op.bytesLess (ch a :: x) (ch b :: y) = true := by
  have h1 := ch_toNat a
  have h2 := ch_toNat b
  have : ch a < ch b := UInt8.lt_iff_toNat_lt.2 (by omega)
  simp [Op.bytesLess, this]
theorem ch_eq {a b : Int} (h : a % 10 = b % 10) : ch a = ch b := ch_of (ch_isD b) (by rw [ch_dv, h])
theorem ls_eq {a b : Int} (h : a % 10 = b % 10) (x y : List UInt8) : Op.bytesLess (ch a :: x) (ch b :: y) = Op.bytesLess x y := by rw [ch_eq h, ls_same]
theorem ls_two {a b : Int} (h0 : 0 ≤ a) (h : a < b) (hb : b ≤ 99) (x y : List UInt8) : Op.bytesLess (ch (a / 10) :: ch a :: x) (ch (b / 10) :: ch b :: y) = true := by
  by_cases h1 : a / 10 < b / 10
  · exact ls_lt (by omega) _ _
  · rw [ls_eq (by omega)]; exact ls_lt (by omega) _ _
theorem ls_four {a b : Int} (h0 : 0 ≤ a) (h : a < b) (hb : b ≤ 9999) (x y : List UInt8) : Op.bytesLess (ch (a / 1000) :: ch (a / 100) :: ch (a / 10) :: ch a :: x) (ch (b / 1000) :: ch (b / 100) :: ch (b / 10) :: ch b :: y) = true := by
  by_cases h1 : a / 1000 < b / 1000
  · exact ls_lt (by omega) _ _
  · rw [ls_eq (by omega)]
    by_cases h2 : a / 100 < b / 100
    · exact ls_lt (by omega) _ _
    · rw [ls_eq (by omega)]
      by_cases h3 : a / 10 < b / 10
      · exact ls_lt (by omega) _ _
      · rw [ls_eq (by omega)]; exact ls_lt (by omega) _ _
theorem dateL_less {y m d y' m' d' : Int} (h : okDate y m d) (h' : okDate y' m' d') (hl : y < y' ∨ (y = y' ∧ (m < m' ∨ (m = m' ∧ d < d')))) : Op.bytesLess (dateL y m d) (dateL y' m' d') = true := by
  obtain ⟨p1, p2, p3, p4, p5, p6⟩ := h
  obtain ⟨q1, q2, q3, q4, q5, q6⟩ := h'
  have r := (dim_range y m).2
  have r' := (dim_range y' m').2
  unfold dateL
  rcases hl with hl | ⟨rfl, hl⟩
  · exact ls_four (by omega) hl (by omega) _ _
  · rw [ls_same, ls_same, ls_same, ls_same, ls_same]
    rcases hl with hl | ⟨rfl, hl⟩
    · exact ls_two (by omega) hl (by omega) _ _
    · rw [ls_same, ls_same, ls_same]
      exact ls_two (by omega) hl (by omega) _ _
theorem ls_asymm : ∀ (x y : List UInt8), Op.bytesLess x y = true → Op.bytesLess y x = false ∧ x ≠ y := by
  intro x
  induction x with
  | nil =>
    intro y h
    cases y with
    | nil => cases h
    | cons b y => exact ⟨rfl, by simp⟩
  | cons a x ih =>
    intro y h
    cases y with
    | nil => cases h
    | cons b y =>
      by_cases e : a = b
      · subst e
        rw [ls_same] at h ⊢
        obtain ⟨h1, h2⟩ := ih y h
        exact ⟨h1, by simpa using h2⟩
      · have hn : a.toNat ≠ b.toNat := fun h => e (UInt8.toNat.inj h)
        have hab : a < b := by
          simp [Op.bytesLess, e] at h
          exact h
        have := UInt8.lt_iff_toNat_lt.1 hab
        have hba : ¬ b < a := by intro h; have := UInt8.lt_iff_toNat_lt.1 h; omega
        exact ⟨by simp [Op.bytesLess, hba, Ne.symm e], by simp [e]⟩
/-- the next day's text is the greater one -/
theorem dateL_next {day y m d y' m' d' : Int} (h : isDate day y m d) (h' : isDate (day + 1) y' m' d') (hl : day < 73048) : Op.bytesLess (dateL y m d) (dateL y' m' d') = true := by
  obtain ⟨e1, e2, e3⟩ := isDate_unique (isDate_next h hl) h'
  refine dateL_less h.1 h'.1 ?_
  by_cases c1 : d < dim y m
  · simp only [c1, if_true] at e1 e2 e3
    right; refine ⟨e1, .inr ⟨e2, by omega⟩⟩
  · by_cases c2 : m < 12
    · simp only [c1, c2, if_false, if_true] at e1 e2 e3
      right; exact ⟨e1, .inl (by omega)⟩
    · simp only [c1, c2, if_false] at e1 e2 e3
      left; omega
end DM
