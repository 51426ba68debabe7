/- The n-th weekday of a month; a date's text. -/
import Derived.Test.YthahfcehfagepaaDateMath
namespace DM
set_option linter.unusedVariables false

/-! the n-th weekday -/
theorem dayOf_from (y m d : Int) : dayOf y m d = dayOf y m 1 + d - 1 := by unfold dayOf; omega
theorem weekday_in {day : Int} (h0 : 0 ≤ day) (h1 : day ≤ 73048) : weekday day = (day + 5) % 7 + 1 := by unfold weekday; rw [if_pos ⟨h0, h1⟩]
def nthD (y m wd n : Int) : Int := (wd - ((dayOf y m 1 + 5) % 7 + 1)) % 7 + 1 + 7 * (n - 1)
theorem nthD_range (y m wd n : Int) : 7 * n - 6 ≤ nthD y m wd n ∧ nthD y m wd n ≤ 7 * n := by unfold nthD; omega
theorem nthD_step (y m wd n : Int) : nthD y m wd n = nthD y m wd 1 + 7 * (n - 1) := by unfold nthD; omega
theorem weekday_nth {y m d wd : Int} (h : okDate y m d) (h1 : 1 ≤ wd) (h7 : wd ≤ 7) : weekday (dayOf y m d) = wd ↔ (d - nthD y m wd 1) % 7 = 0 := by
  obtain ⟨_, _, _, _, a, b⟩ := day_in h
  rw [weekday_in a b, dayOf_from]
  unfold nthD
  constructor <;> intro <;> omega
theorem nth_only {y m d wd n : Int} (h : okDate y m d) (h1 : 1 ≤ wd) (h7 : wd ≤ 7) (hd1 : 7 * n - 6 ≤ d) (hd2 : d ≤ 7 * n) : weekday (dayOf y m d) = wd ↔ d = nthD y m wd n := by
  rw [weekday_nth h h1 h7]
  have r := nthD_range y m wd 1
  have s := nthD_step y m wd n
  constructor <;> intro <;> omega
/-- how many more are to come, ahead of the month's day d -/
def nthLeft (y m wd n d : Int) : Int := n - (d + 6 - nthD y m wd 1) / 7
theorem nthLeft_start (y m wd n : Int) : nthLeft y m wd n 1 = n := by
  have r := nthD_range y m wd 1
  unfold nthLeft; omega
theorem nthLeft_hit {y m wd n d : Int} (h : (d - nthD y m wd 1) % 7 = 0) : nthLeft y m wd n (d + 1) = nthLeft y m wd n d - 1 := by unfold nthLeft; omega
theorem nthLeft_miss {y m wd n d : Int} (h : (d - nthD y m wd 1) % 7 ≠ 0) : nthLeft y m wd n (d + 1) = nthLeft y m wd n d := by unfold nthLeft; omega
theorem nthLeft_zero {y m wd n d : Int} (hd : 1 ≤ d) (hn : 1 ≤ n) (h : nthLeft y m wd n d ≠ 0) (h0 : nthLeft y m wd n (d + 1) = 0) : d = nthD y m wd n := by
  have r := nthD_range y m wd 1
  have s := nthD_step y m wd n
  unfold nthLeft at *; omega
theorem nthLeft_some {y m wd n d : Int} (h : d ≤ nthD y m wd n) : 1 ≤ nthLeft y m wd n d := by
  have s := nthD_step y m wd n
  unfold nthLeft; omega
def nthE (y m wd n : Int) : Int := if wd < 1 ∨ 7 < wd ∨ n < 1 ∨ 5 < n then 2 else if okDate y m (nthD y m wd n) then 0 else 15
def nthN (y m wd n : Int) : Int := if nthE y m wd n = 0 then dayOf y m (nthD y m wd n) else 0

/-! texts -/
def ch (n : Int) : UInt8 := UInt8.ofNat (48 + (n % 10).toNat)
theorem ch_toNat (n : Int) : ((ch n).toNat : Int) = 48 + n % 10 := by
  unfold ch
  have : 48 + (n % 10).toNat < 256 := by omega
  rw [UInt8.toNat_ofNat_of_lt' this]; omega
def dateL (y m d : Int) : List UInt8 := [ch (y / 1000), ch (y / 100), ch (y / 10), ch y, 45, ch (m / 10), ch m, 45, ch (d / 10), ch d]
def isD (c : UInt8) : Prop := 48 ≤ c.toNat ∧ c.toNat ≤ 57
instance (c : UInt8) : Decidable (isD c) := by unfold isD; infer_instance
def dv (c : UInt8) : Int := (c.toNat : Int) - 48
theorem ch_isD (n : Int) : isD (ch n) := by have := ch_toNat n; unfold isD; omega
theorem ch_dv (n : Int) : dv (ch n) = n % 10 := by have := ch_toNat n; unfold dv; omega
theorem ch_of {c : UInt8} {n : Int} (h : isD c) (e : n % 10 = dv c) : ch n = c := by
  apply UInt8.toNat.inj
  have := ch_toNat n
  unfold dv at e
  unfold isD at h
  omega
/-- a run of figures: its value; -1 if one is none -/
def dgo : Int → List UInt8 → Int
  | n, [] => n
  | n, c :: t => if isD c then dgo (10 * n + dv c) t else -1
theorem dgo_two {a b : UInt8} : dgo 0 [a, b] = if isD a ∧ isD b then 10 * dv a + dv b else -1 := by
  simp only [dgo]
  by_cases h1 : isD a <;> by_cases h2 : isD b <;> simp [h1, h2]
theorem dgo_four {a b c d : UInt8} : dgo 0 [a, b, c, d] = if isD a ∧ isD b ∧ isD c ∧ isD d then 1000 * dv a + 100 * dv b + 10 * dv c + dv d else -1 := by
  simp only [dgo]
  by_cases h1 : isD a <;> by_cases h2 : isD b <;> by_cases h3 : isD c <;> by_cases h4 : isD d <;> simp [h1, h2, h3, h4] <;> omega
theorem dv_range {c : UInt8} (h : isD c) : 0 ≤ dv c ∧ dv c ≤ 9 := by unfold isD at h; unfold dv; omega
/-- is a text one of a date by its form? -/
def form (s : List UInt8) : Prop := ∃ a b c d e f g h, s = [a, b, c, d, 45, e, f, 45, g, h] ∧ isD a ∧ isD b ∧ isD c ∧ isD d ∧ isD e ∧ isD f ∧ isD g ∧ isD h
def yearOf (s : List UInt8) : Int := dgo 0 (s.take 4)
def monthOf (s : List UInt8) : Int := dgo 0 ((s.drop 5).take 2)
def dayIn (s : List UInt8) : Int := dgo 0 (s.drop 8)
theorem dateL_form (y m d : Int) : form (dateL y m d) := ⟨_, _, _, _, _, _, _, _, rfl, ch_isD _, ch_isD _, ch_isD _, ch_isD _, ch_isD _, ch_isD _, ch_isD _, ch_isD _⟩
theorem dateL_read {y m d : Int} (hy : 0 ≤ y ∧ y ≤ 9999) (hm : 0 ≤ m ∧ m ≤ 99) (hd : 0 ≤ d ∧ d ≤ 99) : yearOf (dateL y m d) = y ∧ monthOf (dateL y m d) = m ∧ dayIn (dateL y m d) = d := by
  have e1 : yearOf (dateL y m d) = dgo 0 [ch (y / 1000), ch (y / 100), ch (y / 10), ch y] := rfl
  have e2 : monthOf (dateL y m d) = dgo 0 [ch (m / 10), ch m] := rfl
  have e3 : dayIn (dateL y m d) = dgo 0 [ch (d / 10), ch d] := rfl
  rw [e1, e2, e3, dgo_four, dgo_two, dgo_two, if_pos ⟨ch_isD _, ch_isD _, ch_isD _, ch_isD _⟩, if_pos ⟨ch_isD _, ch_isD _⟩, if_pos ⟨ch_isD _, ch_isD _⟩]
  simp only [ch_dv]
  omega
theorem form_read {s : List UInt8} (h : form s) : dateL (yearOf s) (monthOf s) (dayIn s) = s ∧ 0 ≤ yearOf s ∧ yearOf s ≤ 9999 ∧ 0 ≤ monthOf s ∧ monthOf s ≤ 99 ∧ 0 ≤ dayIn s ∧ dayIn s ≤ 99 := by
  obtain ⟨a, b, c, d, e, f, g, h, rfl, ha, hb, hc, hd, he, hf, hg, hh⟩ := h
  have e1 : yearOf [a, b, c, d, 45, e, f, 45, g, h] = dgo 0 [a, b, c, d] := rfl
  have e2 : monthOf [a, b, c, d, 45, e, f, 45, g, h] = dgo 0 [e, f] := rfl
  have e3 : dayIn [a, b, c, d, 45, e, f, 45, g, h] = dgo 0 [g, h] := rfl
  rw [e1, e2, e3, dgo_four, dgo_two, dgo_two, if_pos ⟨ha, hb, hc, hd⟩, if_pos ⟨he, hf⟩, if_pos ⟨hg, hh⟩]
  have r1 := dv_range ha; have r2 := dv_range hb; have r3 := dv_range hc; have r4 := dv_range hd
  have r5 := dv_range he; have r6 := dv_range hf; have r7 := dv_range hg; have r8 := dv_range hh
  refine ⟨?_, by omega, by omega, by omega, by omega, by omega, by omega⟩
  unfold dateL
  rw [ch_of ha (by omega), ch_of hb (by omega), ch_of hc (by omega), ch_of hd (by omega), ch_of he (by omega), ch_of hf (by omega), ch_of hg (by omega), ch_of hh (by omega)]
end DM
