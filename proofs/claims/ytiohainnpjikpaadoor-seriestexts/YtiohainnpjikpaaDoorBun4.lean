/- Put together: DateMath2, DateMath4, DateA, DateB, DateC, DateD, DateE, DateMath3. -/
import Derived.Test.YtiohainnpjikpaaDoorBun3
import Derived.Test.YtiohainnpjikpaaDoorBun1
import Derived.Test.YtiohainnpjikpaaDoorBun2
/- The n-th weekday of a month; a date's text. -/
namespace DM
set_option linter.unusedVariables false

/-! the n-th weekday -/
theorem dayOf_from (y m d : Int) : dayOf y m d = dayOf y m 1 + d - 1 := by unfold dayOf; omega
theorem weekday_in {day : Int} (h0 : 0 ≤ day) (h1 : day ≤ 73048) : weekday day = (day + 5) % 7 + 1 := by unfold weekday; rw [if_pos ⟨h0, h1⟩]
def nthD (y m wd n : Int) : Int := (wd - ((dayOf y m 1 + 5) % 7 + 1)) % 7 + 1 + 7 * (n - 1)
theorem nthD_range (y m wd n : Int) : 7 * n - 6 ≤ nthD y m wd n ∧ nthD y m wd n ≤ 7 * n := by unfold nthD; omega
theorem nthD_step (y m wd n : Int) : nthD y m wd n = nthD y m wd 1 + 7 * (n - 1) := by unfold nthD; omega
theorem weekday_nth {y m d wd : Int} (h : okDate y m d) (h1 : 1 ≤ wd) (h7 : wd ≤ 7) : weekday (dayOf y m d) = wd ↔ (d - nthD y m wd 1) % 7 = 0 := by
  obtain ⟨_, _, _, _, a, b⟩ := day_in h
  rw [weekday_in a b, dayOf_from]
  unfold nthD
  constructor <;> intro <;> omega
theorem nth_only {y m d wd n : Int} (h : okDate y m d) (h1 : 1 ≤ wd) (h7 : wd ≤ 7) (hd1 : 7 * n - 6 ≤ d) (hd2 : d ≤ 7 * n) : weekday (dayOf y m d) = wd ↔ d = nthD y m wd n := by
  rw [weekday_nth h h1 h7]
  have r := nthD_range y m wd 1
  have s := nthD_step y m wd n
  constructor <;> intro <;> omega
/-- how many more are to come, ahead of the month's day d -/
def nthLeft (y m wd n d : Int) : Int := n - (d + 6 - nthD y m wd 1) / 7
theorem nthLeft_start (y m wd n : Int) : nthLeft y m wd n 1 = n := by
  have r := nthD_range y m wd 1
  unfold nthLeft; omega
theorem nthLeft_hit {y m wd n d : Int} (h : (d - nthD y m wd 1) % 7 = 0) : nthLeft y m wd n (d + 1) = nthLeft y m wd n d - 1 := by unfold nthLeft; omega
theorem nthLeft_miss {y m wd n d : Int} (h : (d - nthD y m wd 1) % 7 ≠ 0) : nthLeft y m wd n (d + 1) = nthLeft y m wd n d := by unfold nthLeft; omega
theorem nthLeft_zero {y m wd n d : Int} (hd : 1 ≤ d) (hn : 1 ≤ n) (h : nthLeft y m wd n d ≠ 0) (h0 : nthLeft y m wd n (d + 1) = 0) : d = nthD y m wd n := by
  have r := nthD_range y m wd 1
  have s := nthD_step y m wd n
  unfold nthLeft at *; omega
theorem nthLeft_some {y m wd n d : Int} (h : d ≤ nthD y m wd n) : 1 ≤ nthLeft y m wd n d := by
  have s := nthD_step y m wd n
  unfold nthLeft; omega
def nthE (y m wd n : Int) : Int := if wd < 1 ∨ 7 < wd ∨ n < 1 ∨ 5 < n then 2 else if okDate y m (nthD y m wd n) then 0 else 15
def nthN (y m wd n : Int) : Int := if nthE y m wd n = 0 then dayOf y m (nthD y m wd n) else 0

/-! texts -/
def ch (n : Int) : UInt8 := UInt8.ofNat (48 + (n % 10).toNat)
theorem ch_toNat (n : Int) : ((ch n).toNat : Int) = 48 + n % 10 := by
  unfold ch
  have : 48 + (n % 10).toNat < 256 := by omega
  rw [UInt8.toNat_ofNat_of_lt' this]; omega
def dateL (y m d : Int) : List UInt8 := [ch (y / 1000), ch (y / 100), ch (y / 10), ch y, 45, ch (m / 10), ch m, 45, ch (d / 10), ch d]
def isD (c : UInt8) : Prop := 48 ≤ c.toNat ∧ c.toNat ≤ 57
instance (c : UInt8) : Decidable (isD c) := by unfold isD; infer_instance
def dv (c : UInt8) : Int := (c.toNat : Int) - 48
theorem ch_isD (n : Int) : isD (ch n) := by have := ch_toNat n; unfold isD; omega
theorem ch_dv (n : Int) : dv (ch n) = n % 10 := by have := ch_toNat n; unfold dv; omega
theorem ch_of {c : UInt8} {n : Int} (h : isD c) (e : n % 10 = dv c) : ch n = c := by
  apply UInt8.toNat.inj
  have := ch_toNat n
  unfold dv at e
  unfold isD at h
  omega
/-- a run of figures: its value; -1 if one is none -/
def dgo : Int → List UInt8 → Int
  | n, [] => n
  | n, c :: t => if isD c then dgo (10 * n + dv c) t else -1
theorem dgo_two {a b : UInt8} : dgo 0 [a, b] = if isD a ∧ isD b then 10 * dv a + dv b else -1 := by
  simp only [dgo]
  by_cases h1 : isD a <;> by_cases h2 : isD b <;> simp [h1, h2]
theorem dgo_four {a b c d : UInt8} : dgo 0 [a, b, c, d] = if isD a ∧ isD b ∧ isD c ∧ isD d then 1000 * dv a + 100 * dv b + 10 * dv c + dv d else -1 := by
  simp only [dgo]
  by_cases h1 : isD a <;> by_cases h2 : isD b <;> by_cases h3 : isD c <;> by_cases h4 : isD d <;> simp [h1, h2, h3, h4] <;> omega
theorem dv_range {c : UInt8} (h : isD c) : 0 ≤ dv c ∧ dv c ≤ 9 := by unfold isD at h; unfold dv; omega
/-- is a text one of a date by its form? -/
def form (s : List UInt8) : Prop := ∃ a b c d e f g h, s = [a, b, c, d, 45, e, f, 45, g, h] ∧ isD a ∧ isD b ∧ isD c ∧ isD d ∧ isD e ∧ isD f ∧ isD g ∧ isD h
def yearOf (s : List UInt8) : Int := dgo 0 (s.take 4)
def monthOf (s : List UInt8) : Int := dgo 0 ((s.drop 5).take 2)
def dayIn (s : List UInt8) : Int := dgo 0 (s.drop 8)
theorem dateL_form (y m d : Int) : form (dateL y m d) := ⟨_, _, _, _, _, _, _, _, rfl, ch_isD _, ch_isD _, ch_isD _, ch_isD _, ch_isD _, ch_isD _, ch_isD _, ch_isD _⟩
theorem dateL_read {y m d : Int} (hy : 0 ≤ y ∧ y ≤ 9999) (hm : 0 ≤ m ∧ m ≤ 99) (hd : 0 ≤ d ∧ d ≤ 99) : yearOf (dateL y m d) = y ∧ monthOf (dateL y m d) = m ∧ dayIn (dateL y m d) = d := by
  have e1 : yearOf (dateL y m d) = dgo 0 [ch (y / 1000), ch (y / 100), ch (y / 10), ch y] := rfl
  have e2 : monthOf (dateL y m d) = dgo 0 [ch (m / 10), ch m] := rfl
  have e3 : dayIn (dateL y m d) = dgo 0 [ch (d / 10), ch d] := rfl
  rw [e1, e2, e3, dgo_four, dgo_two, dgo_two, if_pos ⟨ch_isD _, ch_isD _, ch_isD _, ch_isD _⟩, if_pos ⟨ch_isD _, ch_isD _⟩, if_pos ⟨ch_isD _, ch_isD _⟩]
  simp only [ch_dv]
  omega
theorem form_read {s : List UInt8} (h : form s) : dateL (yearOf s) (monthOf s) (dayIn s) = s ∧ 0 ≤ yearOf s ∧ yearOf s ≤ 9999 ∧ 0 ≤ monthOf s ∧ monthOf s ≤ 99 ∧ 0 ≤ dayIn s ∧ dayIn s ≤ 99 := by
  obtain ⟨a, b, c, d, e, f, g, h, rfl, ha, hb, hc, hd, he, hf, hg, hh⟩ := h
  have e1 : yearOf [a, b, c, d, 45, e, f, 45, g, h] = dgo 0 [a, b, c, d] := rfl
  have e2 : monthOf [a, b, c, d, 45, e, f, 45, g, h] = dgo 0 [e, f] := rfl
  have e3 : dayIn [a, b, c, d, 45, e, f, 45, g, h] = dgo 0 [g, h] := rfl
  rw [e1, e2, e3, dgo_four, dgo_two, dgo_two, if_pos ⟨ha, hb, hc, hd⟩, if_pos ⟨he, hf⟩, if_pos ⟨hg, hh⟩]
  have r1 := dv_range ha; have r2 := dv_range hb; have r3 := dv_range hc; have r4 := dv_range hd
  have r5 := dv_range he; have r6 := dv_range hf; have r7 := dv_range hg; have r8 := dv_range hh
  refine ⟨?_, by omega, by omega, by omega, by omega, by omega, by omega⟩
  unfold dateL
  rw [ch_of ha (by omega), ch_of hb (by omega), ch_of hc (by omega), ch_of hd (by omega), ch_of he (by omega), ch_of hf (by omega), ch_of hg (by omega), ch_of hh (by omega)]
end DM

/- Days ahead of a year, by counting leap years. -/
namespace DM
set_option linter.unusedVariables false

def lu (y : Int) : Int := y.tdiv 4 - y.tdiv 100 + y.tdiv 400
def ys (y : Int) : Int := (y - 2000) * 365 + lu (y - 1) - lu 1999
theorem tdiv_pos {y k : Int} (h : 0 ≤ y) : y.tdiv k = y / k := Int.tdiv_eq_ediv_of_nonneg h
theorem tmod_pos {y k : Int} (h : 0 ≤ y) : y.tmod k = y % k := Int.tmod_eq_emod_of_nonneg h
theorem lu_step {y : Int} (h : 1 ≤ y) : lu y = lu (y - 1) + (if leap y = true then 1 else 0) := by
  unfold lu leap
  rw [tdiv_pos (by omega), tdiv_pos (by omega), tdiv_pos (by omega), tdiv_pos (by omega), tdiv_pos (by omega), tdiv_pos (by omega), tmod_pos (by omega), tmod_pos (by omega), tmod_pos (by omega)]
  by_cases h4 : y % 4 = 0 <;> by_cases h1 : y % 100 = 0 <;> by_cases h400 : y % 400 = 0 <;> simp [h4, h1, h400] <;> omega
theorem lu_range {y : Int} (h0 : 0 ≤ y) (h1 : y ≤ 10000) : 0 ≤ lu y ∧ lu y ≤ 10000 := by
  unfold lu
  rw [tdiv_pos h0, tdiv_pos h0, tdiv_pos h0]; omega
theorem ys_before (k : Nat) : ys (2000 + k) = before k := by
  induction k with
  | zero => decide
  | succ k ih =>
    have s := lu_step (y := 2000 + k) (by omega)
    have e : before (k + 1) = before k + ylen (2000 + k) := rfl
    rw [e, ← ih]
    unfold ys ylen
    rw [show (2000 : Int) + ((k + 1 : Nat) : Int) - 1 = 2000 + k by omega, s]
    split <;> omega
theorem ys_at {y : Int} (h : 2000 ≤ y) : ys y = before (y - 2000).toNat := by
  rw [← ys_before, show (2000 : Int) + ((y - 2000).toNat : Nat) = y by omega]
theorem before_range {k : Nat} (h : k ≤ 200) : 0 ≤ before k ∧ before k ≤ 73049 := by
  have a := before_mono (Nat.zero_le k)
  have b := before_mono h
  rw [before_all] at b
  exact ⟨a, b⟩
theorem cum_range (y : Int) (j : Nat) (h : j ≤ 12) : 0 ≤ cum y j ∧ cum y j ≤ 366 := by
  have a := cum_mono (y := y) (Nat.zero_le j)
  have b := cum_mono (y := y) h
  rw [cum_year] at b
  have := (ylen_range y).2
  exact ⟨a, by omega⟩
theorem cum_succ (y : Int) (j : Nat) : cum y (j + 1) = cum y j + dim y (j + 1) := rfl
theorem before_succ (k : Nat) : before (k + 1) = before k + ylen (2000 + k) := rfl
theorem before_ge (k : Nat) : 365 * (k : Int) ≤ before k := by
  induction k with
  | zero => decide
  | succ k ih => have := (ylen_range (2000 + k)).1; rw [before_succ]; omega
theorem before_le (k : Nat) : before k ≤ 366 * (k : Int) := by
  induction k with
  | zero => decide
  | succ k ih => have := (ylen_range (2000 + k)).2; rw [before_succ]; omega
def isd (d : Int) : Bool := decide (0 ≤ d ∧ d ≤ 73048)
theorem isd_true {d : Int} (h0 : 0 ≤ d) (h1 : d ≤ 73048) : isd d = true := decide_eq_true ⟨h0, h1⟩
theorem isd_false {d : Int} (h : d < 0 ∨ 73048 < d) : isd d = false := decide_eq_false (by omega)
theorem isd_of {d : Int} (h : isd d = true) : 0 ≤ d ∧ d ≤ 73048 := of_decide_eq_true h
theorem isd_no {d : Int} (h : isd d = false) : d < 0 ∨ 73048 < d := by have := of_decide_eq_false h; omega
end DM
namespace DM
/-! how a day's year and month are found -/
theorem split_year {day y m d : Int} (h : isDate day y m d) (k : Nat) : before (k + 1) ≤ day ↔ k < (y - 2000).toNat := by
  obtain ⟨h1, rfl⟩ := h
  obtain ⟨_, _, a3, a4, _⟩ := day_in h1
  constructor
  · intro h
    rcases Nat.lt_or_ge k (y - 2000).toNat with g | g
    · exact g
    · have := before_mono (show (y - 2000).toNat + 1 ≤ k + 1 by omega); omega
  · intro h
    have := before_mono (show k + 1 ≤ (y - 2000).toNat by omega); omega
theorem split_month {day y m d : Int} (h : isDate day y m d) (j : Nat) : cum y (j + 1) ≤ day - before (y - 2000).toNat ↔ j < (m - 1).toNat := by
  obtain ⟨h1, rfl⟩ := h
  obtain ⟨a1, a2, _, _, _⟩ := day_in h1
  constructor
  · intro h
    rcases Nat.lt_or_ge j (m - 1).toNat with g | g
    · exact g
    · have := cum_mono (y := y) (show (m - 1).toNat + 1 ≤ j + 1 by omega); omega
  · intro h
    have := cum_mono (y := y) (show j + 1 ≤ (m - 1).toNat by omega); omega
theorem split_start {day y m d : Int} (h : isDate day y m d) : day / 366 ≤ (y - 2000).toNat := by
  obtain ⟨h1, rfl⟩ := h
  obtain ⟨_, _, _, a4, a5, _⟩ := day_in h1
  have := before_le ((y - 2000).toNat + 1)
  omega
theorem split_day {day y m d : Int} (h : isDate day y m d) : day - before (y - 2000).toNat - cum y (m - 1).toNat + 1 = d ∧ 0 ≤ day - before (y - 2000).toNat ∧ day - before (y - 2000).toNat ≤ 366 ∧ 0 ≤ day ∧ day ≤ 73048 := by
  obtain ⟨h1, e⟩ := h
  obtain ⟨_, _, a3, a4, a5, a6⟩ := day_in h1
  have b := before_succ (y - 2000).toNat
  have := (ylen_range (2000 + ((y - 2000).toNat : Nat))).2
  rw [e] at a3 a4 a5 a6
  unfold dayOf at e
  omega
theorem day_cases (day : Int) : (day < 0 ∨ 73048 < day) ∨ ∃ y m d, isDate day y m d := by
  by_cases h : day < 0 ∨ 73048 < day
  · exact .inl h
  · exact .inr (isDate_exists (by omega) (by omega))
end DM

/- Contracts of layer 5's smallest functions, the program's and the reference's. -/
namespace Go.Proofs.YtiohainnpjikpaaDoor
open Go.RowKit
set_option linter.unusedVariables false

theorem tmod_small (y : Int) (k : Int) (hk : 0 < k) (hk2 : k ≤ 400) : -400 ≤ y.tmod k ∧ y.tmod k ≤ 400 := by
  have h1 := Int.tmod_lt_of_pos y hk
  have h2 : -k < y.tmod k := by
    have := Int.tmod_lt_of_pos (-y) hk
    rw [Int.neg_tmod] at this; omega
  omega

theorem beq0 {x : Int} (h : ¬ x = 0) : (x == 0) = false ∧ (x != 0) = true := by simp [h]
theorem beq1 {x : Int} (h : x = 0) : (x == 0) = true ∧ (x != 0) = false := by simp [h]
theorem bq {a b : Int} (h : ¬ a = b) : (a == b) = false := by simpa using h

theorem leap_any (y : Int) (w : World) :
    Calls Tryd.prog 106 #[.int .i64 y] w fun e w' => e = .returned (.bool (DM.leap y)) ∧ w = w' := by
  obtain ⟨a1, a2⟩ := tmod_small y 4 (by omega) (by omega)
  obtain ⟨b1, b2⟩ := tmod_small y 100 (by omega) (by omega)
  obtain ⟨c1, c2⟩ := tmod_small y 400 (by omega) (by omega)
  generalize hv : DM.leap y = v
  have HV := Lib.hid hv
  clear hv
  unfold DM.leap at HV
  by_cases h4 : y.tmod 4 = 0
  · by_cases h1 : y.tmod 100 = 0
    · by_cases h400 : y.tmod 400 = 0
      · have HN : Hid (v = true) := Lib.hid (by rw [← HV.out]; simp [h400])
        have d4 := (beq1 h4).1; have d1 := (beq1 h1).2; have d400 := (beq1 h400).1
        clear h4 h1 h400
        go_enter Tryd.func106, Tryd.ntmps106
        go_wp2
        go_ret
        exact ⟨by rw [HN.out]; rfl, rfl⟩
      · have HN : Hid (v = false) := Lib.hid (by rw [← HV.out]; simp [h1, h400])
        have d4 := (beq1 h4).1; have d1 := (beq1 h1).2; have d400 := (beq0 h400).1
        clear h4 h1 h400
        go_enter Tryd.func106, Tryd.ntmps106
        go_wp2
        go_ret
        exact ⟨by rw [HN.out]; rfl, rfl⟩
    · have HN : Hid (v = true) := Lib.hid (by rw [← HV.out]; simp [h4, h1])
      have d4 := (beq1 h4).1; have d1 := (beq0 h1).2
      clear h4 h1
      go_enter Tryd.func106, Tryd.ntmps106
      go_wp2
      go_ret
      exact ⟨by rw [HN.out]; rfl, rfl⟩
  · by_cases h400 : y.tmod 400 = 0
    · have HN : Hid (v = true) := Lib.hid (by rw [← HV.out]; simp [h400])
      have d4 := (beq0 h4).1; have d400 := (beq1 h400).1
      clear h4 h400
      go_enter Tryd.func106, Tryd.ntmps106
      go_wp2
      go_ret
      exact ⟨by rw [HN.out]; rfl, rfl⟩
    · have HN : Hid (v = false) := Lib.hid (by rw [← HV.out]; simp [h4, h400])
      have d4 := (beq0 h4).1; have d400 := (beq0 h400).1
      clear h4 h400
      go_enter Tryd.func106, Tryd.ntmps106
      go_wp2
      go_ret
      exact ⟨by rw [HN.out]; rfl, rfl⟩

theorem rleap_any (y : Int) (w : World) :
    Calls Tryd.prog 61 #[.int .i64 y] w fun e w' => e = .returned (.bool (DM.leap y)) ∧ w = w' := by
  obtain ⟨a1, a2⟩ := tmod_small y 4 (by omega) (by omega)
  obtain ⟨b1, b2⟩ := tmod_small y 100 (by omega) (by omega)
  obtain ⟨c1, c2⟩ := tmod_small y 400 (by omega) (by omega)
  generalize hv : DM.leap y = v
  have HV := Lib.hid hv
  clear hv
  unfold DM.leap at HV
  by_cases h4 : y.tmod 4 = 0
  · by_cases h1 : y.tmod 100 = 0
    · by_cases h400 : y.tmod 400 = 0
      · have HN : Hid (v = true) := Lib.hid (by rw [← HV.out]; simp [h400])
        have d4 := (beq1 h4).1; have d1 := (beq1 h1).2; have d400 := (beq1 h400).1
        clear h4 h1 h400
        go_enter Tryd.func61, Tryd.ntmps61
        go_wp2
        go_ret
        exact ⟨by rw [HN.out]; rfl, rfl⟩
      · have HN : Hid (v = false) := Lib.hid (by rw [← HV.out]; simp [h1, h400])
        have d4 := (beq1 h4).1; have d1 := (beq1 h1).2; have d400 := (beq0 h400).1
        clear h4 h1 h400
        go_enter Tryd.func61, Tryd.ntmps61
        go_wp2
        go_ret
        exact ⟨by rw [HN.out]; rfl, rfl⟩
    · have HN : Hid (v = true) := Lib.hid (by rw [← HV.out]; simp [h4, h1])
      have d4 := (beq1 h4).1; have d1 := (beq0 h1).2
      clear h4 h1
      go_enter Tryd.func61, Tryd.ntmps61
      go_wp2
      go_ret
      exact ⟨by rw [HN.out]; rfl, rfl⟩
  · by_cases h400 : y.tmod 400 = 0
    · have HN : Hid (v = true) := Lib.hid (by rw [← HV.out]; simp [h400])
      have d4 := (beq0 h4).1; have d400 := (beq1 h400).1
      clear h4 h400
      go_enter Tryd.func61, Tryd.ntmps61
      go_wp2
      go_ret
      exact ⟨by rw [HN.out]; rfl, rfl⟩
    · have HN : Hid (v = false) := Lib.hid (by rw [← HV.out]; simp [h4, h400])
      have d4 := (beq0 h4).1; have d400 := (beq0 h400).1
      clear h4 h400
      go_enter Tryd.func61, Tryd.ntmps61
      go_wp2
      go_ret
      exact ⟨by rw [HN.out]; rfl, rfl⟩

theorem days_any (y m : Int) (w : World) :
    Calls Tryd.prog 91 #[.int .i64 y, .int .i64 m] w fun e w' => e = .returned (.int .i64 (DM.dim y m)) ∧ w = w' := by
  by_cases hm : m = 1 ∨ m = 3 ∨ m = 5 ∨ m = 7 ∨ m = 8 ∨ m = 10 ∨ m = 12
  · have hd : DM.dim y m = 31 := by unfold DM.dim; rw [if_pos hm]
    rw [hd]; clear hd
    rcases hm with rfl | rfl | rfl | rfl | rfl | rfl | rfl
    all_goals
      go_enter Tryd.func91, Tryd.ntmps91
      go_wp2
      go_ret
      exact ⟨rfl, rfl⟩
  · by_cases hm2 : m = 4 ∨ m = 6 ∨ m = 9 ∨ m = 11
    · have hd : DM.dim y m = 30 := by unfold DM.dim; rw [if_neg hm, if_pos hm2]
      rw [hd]; clear hd hm
      rcases hm2 with rfl | rfl | rfl | rfl
      all_goals
        go_enter Tryd.func91, Tryd.ntmps91
        go_wp2
        go_ret
        exact ⟨rfl, rfl⟩
    · by_cases hm3 : m = 2
      · subst hm3
        clear hm hm2
        cases hl : DM.leap y
        · have hd : DM.dim y 2 = 28 := by unfold DM.dim; rw [hl]; rfl
          rw [hd]; clear hd
          go_enter Tryd.func91, Tryd.ntmps91
          go_wp2_with (go_at_call 106; refine (leap_any _ _).mono ?_; rintro e w' ⟨rfl, rfl⟩)
          go_ret
          exact ⟨rfl, rfl⟩
        · have hd : DM.dim y 2 = 29 := by unfold DM.dim; rw [hl]; rfl
          rw [hd]; clear hd
          go_enter Tryd.func91, Tryd.ntmps91
          go_wp2_with (go_at_call 106; refine (leap_any _ _).mono ?_; rintro e w' ⟨rfl, rfl⟩)
          go_ret
          exact ⟨rfl, rfl⟩
      · have hd : DM.dim y m = 0 := by unfold DM.dim; rw [if_neg hm, if_neg hm2, if_neg hm3]
        rw [hd]; clear hd
        have e1 := bq (a := m) (b := 1) (by omega)
        have e2 := bq (a := m) (b := 2) (by omega)
        have e3 := bq (a := m) (b := 3) (by omega)
        have e4 := bq (a := m) (b := 4) (by omega)
        have e5 := bq (a := m) (b := 5) (by omega)
        have e6 := bq (a := m) (b := 6) (by omega)
        have e7 := bq (a := m) (b := 7) (by omega)
        have e8 := bq (a := m) (b := 8) (by omega)
        have e9 := bq (a := m) (b := 9) (by omega)
        have e10 := bq (a := m) (b := 10) (by omega)
        have e11 := bq (a := m) (b := 11) (by omega)
        have e12 := bq (a := m) (b := 12) (by omega)
        clear hm hm2 hm3
        go_enter Tryd.func91, Tryd.ntmps91
        go_wp2
        go_ret
        exact ⟨rfl, rfl⟩

theorem rdays_any (y m : Int) (w : World) :
    Calls Tryd.prog 60 #[.int .i64 y, .int .i64 m] w fun e w' => e = .returned (.int .i64 (DM.dim y m)) ∧ w = w' := by
  by_cases hm : m = 1 ∨ m = 3 ∨ m = 5 ∨ m = 7 ∨ m = 8 ∨ m = 10 ∨ m = 12
  · have hd : DM.dim y m = 31 := by unfold DM.dim; rw [if_pos hm]
    rw [hd]; clear hd
    rcases hm with rfl | rfl | rfl | rfl | rfl | rfl | rfl
    all_goals
      go_enter Tryd.func60, Tryd.ntmps60
      go_wp2
      go_ret
      exact ⟨rfl, rfl⟩
  · by_cases hm2 : m = 4 ∨ m = 6 ∨ m = 9 ∨ m = 11
    · have hd : DM.dim y m = 30 := by unfold DM.dim; rw [if_neg hm, if_pos hm2]
      rw [hd]; clear hd hm
      rcases hm2 with rfl | rfl | rfl | rfl
      all_goals
        go_enter Tryd.func60, Tryd.ntmps60
        go_wp2
        go_ret
        exact ⟨rfl, rfl⟩
    · by_cases hm3 : m = 2
      · subst hm3
        clear hm hm2
        cases hl : DM.leap y
        · have hd : DM.dim y 2 = 28 := by unfold DM.dim; rw [hl]; rfl
          rw [hd]; clear hd
          go_enter Tryd.func60, Tryd.ntmps60
          go_wp2_with (go_at_call 61; refine (rleap_any _ _).mono ?_; rintro e w' ⟨rfl, rfl⟩)
          go_ret
          exact ⟨rfl, rfl⟩
        · have hd : DM.dim y 2 = 29 := by unfold DM.dim; rw [hl]; rfl
          rw [hd]; clear hd
          go_enter Tryd.func60, Tryd.ntmps60
          go_wp2_with (go_at_call 61; refine (rleap_any _ _).mono ?_; rintro e w' ⟨rfl, rfl⟩)
          go_ret
          exact ⟨rfl, rfl⟩
      · have hd : DM.dim y m = 0 := by unfold DM.dim; rw [if_neg hm, if_neg hm2, if_neg hm3]
        rw [hd]; clear hd
        have e1 := bq (a := m) (b := 1) (by omega)
        have e2 := bq (a := m) (b := 2) (by omega)
        have e3 := bq (a := m) (b := 3) (by omega)
        have e4 := bq (a := m) (b := 4) (by omega)
        have e5 := bq (a := m) (b := 5) (by omega)
        have e6 := bq (a := m) (b := 6) (by omega)
        have e7 := bq (a := m) (b := 7) (by omega)
        have e8 := bq (a := m) (b := 8) (by omega)
        have e9 := bq (a := m) (b := 9) (by omega)
        have e10 := bq (a := m) (b := 10) (by omega)
        have e11 := bq (a := m) (b := 11) (by omega)
        have e12 := bq (a := m) (b := 12) (by omega)
        clear hm hm2 hm3
        go_enter Tryd.func60, Tryd.ntmps60
        go_wp2
        go_ret
        exact ⟨rfl, rfl⟩

theorem isDayD_any (d : Int) (w : World) :
    Calls Tryd.prog 89 #[.int .i64 d] w fun e w' => e = .returned (.bool (DM.isd d)) ∧ w = w' := by
  by_cases h1 : 0 ≤ d
  · by_cases h2 : d ≤ 73048
    · rw [DM.isd_true h1 h2]
      go_enter Tryd.func89, Tryd.ntmps89
      go_wp2
      go_ret
      exact ⟨rfl, rfl⟩
    · rw [DM.isd_false (by omega)]
      go_enter Tryd.func89, Tryd.ntmps89
      go_wp2
      go_ret
      exact ⟨rfl, rfl⟩
  · rw [DM.isd_false (by omega)]
    go_enter Tryd.func89, Tryd.ntmps89
    go_wp2
    go_ret
    exact ⟨rfl, rfl⟩

theorem leapsUntil_any (y : Int) (w : World) (h0 : 0 ≤ y) (h1 : y ≤ 10000) :
    Calls Tryd.prog 105 #[.int .i64 y] w fun e w' => e = .returned (.int .i64 (DM.lu y)) ∧ w = w' := by
  have b1 : 0 ≤ y.tdiv 4 ∧ y.tdiv 4 ≤ 10000 := by rw [DM.tdiv_pos h0]; omega
  have b2 : 0 ≤ y.tdiv 100 ∧ y.tdiv 100 ≤ 10000 := by rw [DM.tdiv_pos h0]; omega
  have b3 : 0 ≤ y.tdiv 400 ∧ y.tdiv 400 ≤ 10000 := by rw [DM.tdiv_pos h0]; omega
  obtain ⟨b1, c1⟩ := b1
  obtain ⟨b2, c2⟩ := b2
  obtain ⟨b3, c3⟩ := b3
  generalize hv : DM.lu y = v
  have HV := Lib.hid hv
  clear hv
  unfold DM.lu at HV
  go_enter Tryd.func105, Tryd.ntmps105
  go_wp2
  go_ret
  exact ⟨by rw [← HV.out]; rfl, rfl⟩

theorem yearStart_any (y : Int) (w : World) (h0 : 2000 ≤ y) (h1 : y ≤ 2200) :
    Calls Tryd.prog 90 #[.int .i64 y] w fun e w' => e = .returned (.int .i64 (DM.before (y - 2000).toNat)) ∧ w = w' := by
  rw [← DM.ys_at h0]
  obtain ⟨a1, a2⟩ := DM.lu_range (y := y - 1) (by omega) (by omega)
  obtain ⟨b1, b2⟩ := DM.lu_range (y := 1999) (by omega) (by omega)
  have C1 := fun ww => leapsUntil_any (y - 1) ww (by omega) (by omega)
  have C2 := fun ww => leapsUntil_any 1999 ww (by omega) (by omega)
  unfold DM.ys
  generalize DM.lu (y - 1) = p at *
  generalize DM.lu 1999 = q at *
  have H1 := Lib.hid C1; have H2 := Lib.hid C2
  clear C1 C2
  generalize hv : (y - 2000) * 365 + p - q = v
  have HV := Lib.hid hv
  clear hv
  go_enter Tryd.func90, Tryd.ntmps90
  go_wp2_with fail
  refine (H1.out _).mono ?_
  rintro e w1 ⟨rfl, rfl⟩
  go_wp2_with fail
  refine (H2.out _).mono ?_
  rintro e w1 ⟨rfl, rfl⟩
  go_wp2
  go_ret
  exact ⟨by rw [← HV.out]; rfl, rfl⟩

end Go.Proofs.YtiohainnpjikpaaDoor

/- Contracts: a date's day, the program's and the reference's. -/
namespace Go.Proofs.YtiohainnpjikpaaDoor
open Go.RowKit
set_option linter.unusedVariables false

theorem ofNo {y m d : Int} (h : ¬ DM.okDate y m d) : DM.ofN y m d = 0 ∧ DM.ofE y m d = 15 := by
  unfold DM.ofN DM.ofE; rw [if_neg h, if_neg h]; exact ⟨rfl, rfl⟩
theorem ofYes {y m d : Int} (h : DM.okDate y m d) : DM.ofN y m d = DM.dayOf y m d ∧ DM.ofE y m d = 0 := by
  unfold DM.ofN DM.ofE; rw [if_pos h, if_pos h]; exact ⟨rfl, rfl⟩
theorem dateNo {y m d : Int} (h : ¬ DM.okDate y m d) : y < 2000 ∨ (2000 ≤ y ∧ 2199 < y) ∨ (2000 ≤ y ∧ y ≤ 2199 ∧ d < 1) ∨ (2000 ≤ y ∧ y ≤ 2199 ∧ 1 ≤ d ∧ DM.dim y m < d) := by
  by_cases a : y < 2000
  · exact .inl a
  · by_cases b : 2199 < y
    · exact .inr (.inl ⟨by omega, b⟩)
    · by_cases c : d < 1
      · exact .inr (.inr (.inl ⟨by omega, by omega, c⟩))
      · by_cases e : DM.dim y m < d
        · exact .inr (.inr (.inr ⟨by omega, by omega, by omega, e⟩))
        · exfalso
          have := DM.month_of (y := y) (m := m) (d := d) (by omega) (by omega)
          exact h ⟨by omega, by omega, this.1, this.2, by omega, by omega⟩

set_option maxHeartbeats 1000000 in
theorem of_any (y m d : Int) (w : World) :
    Calls Tryd.prog 84 #[.int .i64 y, .int .i64 m, .int .i64 d] w fun e w' => e = .returned (.tuple #[.int .i64 (DM.ofN y m d), .int .i64 (DM.ofE y m d)]) ∧ w = w' := by
  by_cases h : DM.okDate y m d
  · rw [(ofYes h).1, (ofYes h).2]
    obtain ⟨p1, p2, p3, p4, p5, p6⟩ := h
    have CY := fun ww => yearStart_any y ww p1 (by omega)
    have hr := DM.before_range (k := (y - 2000).toNat) (by omega)
    have hc := fun j => DM.cum_range y j
    have hs := DM.cum_succ y
    have c0 : DM.cum y 0 = 0 := rfl
    have hdr := DM.dim_range y
    generalize hv : DM.dayOf y m d = v
    unfold DM.dayOf at hv
    generalize DM.before (y - 2000).toNat = B at *
    have CD := fun m ww => days_any y m ww
    generalize DM.cum y = cu at *
    generalize DM.dim y = di at *
    obtain ⟨r1, r2⟩ := hr
    have HCY := Lib.hid CY; have HCD := Lib.hid CD; have HC := Lib.hid hc; have HS := Lib.hid hs; have HV := Lib.hid hv; have HDR := Lib.hid hdr; have HC0 := Lib.hid c0
    have d31 := (hdr m).2
    clear CY CD hc hs hv hdr c0
    go_enter Tryd.func84, Tryd.ntmps84
    go_wp2_with fail
    refine (HCD.out _ _).mono ?_
    rintro e w1 ⟨rfl, rfl⟩
    go_wp2_with fail
    refine (HCY.out _).mono ?_
    rintro e w1 ⟨rfl, rfl⟩
    go_wp2
    go_loop [6, 8] (fun v i => ∃ j : Nat, ∃ x : Int, (j : Int) + 1 ≤ m ∧ i = .int .i64 ((j : Int) + 1) ∧ v = .int .i64 x ∧ 0 ≤ x ∧ x ≤ 73500 ∧ Hid (x = B + cu j)) (fun _ i => (m - intOf i).toNat)
    case atStart => exact ⟨0, B, by omega, rfl, rfl, r1, by omega, Lib.hid (by rw [HC0.out]; omega)⟩
    case round =>
      obtain ⟨j, x, hj, rfl, rfl, x1, x2, HX⟩ := hrel
      by_cases hlt : (j : Int) + 1 < m
      · have g1 := HDR.out ((j : Int) + 1)
        have g2 := HC.out (j + 1) (by omega)
        have g3 := HS.out j
        have HN : Hid (x + di ((j : Int) + 1) = B + cu (j + 1)) := Lib.hid (by rw [HX.out, g3]; omega)
        have b1 : 0 ≤ x + di ((j : Int) + 1) := by omega
        have b2 : x + di ((j : Int) + 1) ≤ 73500 := by rw [HN.out]; omega
        obtain ⟨g11, g12⟩ := g1
        clear g2 g3
        go_wp2_with fail
        refine (HCD.out _ _).mono ?_
        rintro e w1 ⟨rfl, rfl⟩
        go_wp2
        go_round
        case rel => exact ⟨j + 1, _, by omega, by go_num, rfl, b1, b2, HN⟩
        case measure => simp [intOf]; omega
      · have hjm : Hid (j = (m - 1).toNat) := Lib.hid (by omega)
        go_wp2
        go_ret2
        exact ⟨by rw [← HV.out, ← hjm.out, ← HX.out]; rfl, rfl⟩
  · rw [(ofNo h).1, (ofNo h).2]
    rcases dateNo h with h1 | ⟨h1, h2⟩ | ⟨h1, h2, h3⟩ | ⟨h1, h2, h3, h4⟩
    all_goals
      clear h
      go_enter Tryd.func84, Tryd.ntmps84
      go_wp2_with (go_at_call 91; refine (days_any _ _ _).mono ?_; rintro e w' ⟨rfl, rfl⟩)
      go_ret2
      exact ⟨rfl, rfl⟩

set_option maxHeartbeats 1000000 in
theorem rof_any (y m d : Int) (w : World) :
    Calls Tryd.prog 35 #[.int .i64 y, .int .i64 m, .int .i64 d] w fun e w' => e = .returned (.tuple #[.int .i64 (DM.ofN y m d), .int .i64 (DM.ofE y m d)]) ∧ w = w' := by
  by_cases h : DM.okDate y m d
  · rw [(ofYes h).1, (ofYes h).2]
    obtain ⟨p1, p2, p3, p4, p5, p6⟩ := h
    have hr := fun k => @DM.before_range k
    have hbs := DM.before_succ
    have b0 : DM.before 0 = 0 := rfl
    have hc := fun j => DM.cum_range y j
    have hs := DM.cum_succ y
    have c0 : DM.cum y 0 = 0 := rfl
    have hdr := DM.dim_range y
    generalize hv : DM.dayOf y m d = v
    unfold DM.dayOf at hv
    generalize DM.before = be at *
    have CD := fun m ww => rdays_any y m ww
    generalize DM.cum y = cu at *
    generalize DM.dim y = di at *
    have HBS := Lib.hid hbs; have HCD := Lib.hid CD; have HC := Lib.hid hc; have HS := Lib.hid hs; have HV := Lib.hid hv; have HDR := Lib.hid hdr; have HC0 := Lib.hid c0; have HB0 := Lib.hid b0; have HR := Lib.hid hr
    have d31 := (hdr m).2
    clear hbs CD hc hs hv hdr c0 b0 hr
    go_enter Tryd.func35, Tryd.ntmps35
    go_wp2_with fail
    refine (HCD.out _ _).mono ?_
    rintro e w1 ⟨rfl, rfl⟩
    go_wp2
    go_loop [8, 9] (fun v i => ∃ j : Nat, ∃ x : Int, (j : Int) + 1 ≤ m ∧ i = .int .i64 ((j : Int) + 1) ∧ v = .int .i64 x ∧ 0 ≤ x ∧ x ≤ 500 ∧ Hid (x = d - 1 + cu j)) (fun _ i => (m - intOf i).toNat)
    case atStart => exact ⟨0, d - 1, by omega, rfl, rfl, by omega, by omega, Lib.hid (by rw [HC0.out]; omega)⟩
    case round =>
      obtain ⟨j, x, hj, rfl, rfl, x1, x2, HX⟩ := hrel
      by_cases hlt : (j : Int) + 1 < m
      · have g1 := HDR.out ((j : Int) + 1)
        have g2 := HC.out (j + 1) (by omega)
        have g3 := HS.out j
        have HN : Hid (x + di ((j : Int) + 1) = d - 1 + cu (j + 1)) := Lib.hid (by rw [HX.out, g3]; omega)
        have b1 : 0 ≤ x + di ((j : Int) + 1) := by omega
        have b2 : x + di ((j : Int) + 1) ≤ 500 := by rw [HN.out]; omega
        obtain ⟨g11, g12⟩ := g1
        clear g2 g3
        go_wp2_with fail
        refine (HCD.out _ _).mono ?_
        rintro e w1 ⟨rfl, rfl⟩
        go_wp2
        go_round
        case rel => exact ⟨j + 1, _, by omega, by go_num, rfl, b1, b2, HN⟩
        case measure => simp [intOf]; omega
      · have hjm : Hid (j = (m - 1).toNat) := Lib.hid (by omega)
        go_wp2
        go_loop [8, 10] (fun v i => ∃ k : Nat, ∃ z : Int, (k : Int) + 2000 ≤ y ∧ i = .int .i64 ((k : Int) + 2000) ∧ v = .int .i64 z ∧ 0 ≤ z ∧ z ≤ 80000 ∧ Hid (z = x + be k)) (fun _ i => (y - intOf i).toNat)
        case atStart => exact ⟨0, x, by omega, rfl, rfl, x1, by omega, Lib.hid (by rw [HB0.out]; omega)⟩
        case round =>
          obtain ⟨k, z, hk, rfl, rfl, z1, z2, HZ⟩ := hrel
          by_cases hlt2 : (k : Int) + 2000 < y
          · have g1 := DM.ylen_range (2000 + (k : Int))
            have g2 := HR.out (k + 1) (by omega)
            have g3 := HBS.out k
            rw [show (2000 : Int) + k = k + 2000 by omega] at g3 g1
            cases hl : DM.leap ((k : Int) + 2000)
            · have hy : DM.ylen ((k : Int) + 2000) = 365 := by unfold DM.ylen; rw [hl]; rfl
              rw [hy] at g3
              have HN : Hid (z + 365 = x + be (k + 1)) := Lib.hid (by rw [HZ.out, g3]; omega)
              have b2 : z + 365 ≤ 80000 := by rw [HN.out]; omega
              clear g1 g2 g3 hy
              go_wp2_with (go_at_call 61; refine (rleap_any _ _).mono ?_; rintro e w' ⟨rfl, rfl⟩)
              go_round
              case rel => exact ⟨k + 1, _, by omega, by go_num, rfl, by omega, b2, HN⟩
              case measure => simp [intOf]; omega
            · have hy : DM.ylen ((k : Int) + 2000) = 366 := by unfold DM.ylen; rw [hl]; rfl
              rw [hy] at g3
              have HN : Hid (z + 365 + 1 = x + be (k + 1)) := Lib.hid (by rw [HZ.out, g3]; omega)
              have b2 : z + 365 + 1 ≤ 80000 := by rw [HN.out]; omega
              clear g1 g2 g3 hy
              go_wp2_with (go_at_call 61; refine (rleap_any _ _).mono ?_; rintro e w' ⟨rfl, rfl⟩)
              go_round
              case rel => exact ⟨k + 1, _, by omega, by go_num, rfl, by omega, b2, HN⟩
              case measure => simp [intOf]; omega
          · have hky : Hid (k = (y - 2000).toNat) := Lib.hid (by omega)
            have HQ : Hid (v = z) := Lib.hid (by rw [← HV.out, ← hjm.out, ← hky.out, HZ.out, HX.out]; omega)
            go_wp2
            go_ret2
            exact ⟨by rw [HQ.out]; rfl, rfl⟩
  · rw [(ofNo h).1, (ofNo h).2]
    rcases dateNo h with h1 | ⟨h1, h2⟩ | ⟨h1, h2, h3⟩ | ⟨h1, h2, h3, h4⟩
    all_goals
      clear h
      go_enter Tryd.func35, Tryd.ntmps35
      go_wp2_with (go_at_call 60; refine (rdays_any _ _ _).mono ?_; rintro e w' ⟨rfl, rfl⟩)
      go_ret2
      exact ⟨rfl, rfl⟩
end Go.Proofs.YtiohainnpjikpaaDoor

/- Contracts: a day's date, the program's and the reference's. -/
namespace Go.Proofs.YtiohainnpjikpaaDoor
open Go.RowKit
set_option linter.unusedVariables false

theorem results_tmp4 {fn : Func} {t u v x : Tmp} (h : fn.results = #[.tmp t, .tmp u, .tmp v, .tmp x]) (tmps : Array Value) (P : Program) (w : World) :
    (results fn tmps).run P w = .ok (.tuple #[tmps.getD t undef, tmps.getD u undef, tmps.getD v undef, tmps.getD x undef]) w := by
  simp [results, h]

set_option maxHeartbeats 1000000 in
theorem split_any (day y m d : Int) (w : World) (h : DM.isDate day y m d) :
    Calls Tryd.prog 65 #[.int .i64 day] w fun e w' => e = .returned (.tuple #[.int .i64 y, .int .i64 m, .int .i64 d, .int .i64 0]) ∧ w = w' := by
  obtain ⟨e1, e2, e3, e4, e5⟩ := DM.split_day h
  have hy := DM.split_year h
  have hm := DM.split_month h
  have h0 := DM.split_start h
  obtain ⟨⟨p1, p2, p3, p4, p5, p6⟩, _⟩ := h
  have hid := DM.isd_true e4 e5
  generalize hK : (y - 2000).toNat = K at *
  generalize hJ : (m - 1).toNat = J at *
  have E1 := Lib.hid e1; have HY := Lib.hid hy; have HM := Lib.hid hm; have HKK := Lib.hid hK; have HJJ := Lib.hid hJ
  have HE2 := Lib.hid e2; have HE3 := Lib.hid e3
  have k199 : K ≤ 199 := by omega
  have j11 : J ≤ 11 := by omega
  have q1 : 0 ≤ day / 366 := by omega
  clear e1 hy hm hK hJ p6 e2 e3
  go_enter Tryd.func65, Tryd.ntmps65
  go_wp2_with (go_at_call 89; refine (isDayD_any _ _).mono ?_; rintro e w' ⟨rfl, rfl⟩)
  go_loop [2] (fun v => ∃ k : Nat, k ≤ K ∧ v = .int .i64 (2000 + (k : Int))) (fun v => (2200 - intOf v).toNat)
  case atStart => exact ⟨(day / 366).toNat, by omega, by congr 1; omega⟩
  case round =>
    obtain ⟨k, hk, rfl⟩ := hrel
    have C := fun ww => yearStart_any (2000 + (k : Int) + 1) ww (by omega) (by omega)
    rw [show (2000 + (k : Int) + 1 - 2000).toNat = k + 1 by omega] at C
    have hyk := HY.out k
    generalize DM.before (k + 1) = x at *
    have HC := Lib.hid C
    clear C
    by_cases hlt : x ≤ day
    · have hk1 := hyk.1 hlt
      clear hyk
      go_wp2_with fail
      refine (HC.out _).mono ?_
      rintro e w1 ⟨rfl, rfl⟩
      go_wp2
      go_round
      case rel => exact ⟨k + 1, by omega, by go_num⟩
      case measure => simp [intOf]; omega
    · have hkK : k = K := by
        rcases Nat.lt_or_ge k K with g | g
        · exact absurd (hyk.2 g) hlt
        · omega
      subst hkK
      clear hyk
      have C := fun ww => yearStart_any (2000 + (k : Int)) ww (by omega) (by omega)
      rw [show (2000 + (k : Int) - 2000).toNat = k by omega] at C
      have f1 := HE2.out
      have f2 := HE3.out
      have f3 := DM.before_range (k := k) (by omega)
      generalize DM.before k = B at *
      obtain ⟨f3, f4⟩ := f3
      have HC2 := Lib.hid C
      clear C
      have hyy : y = 2000 + (k : Int) := by have := HKK.out; omega
      subst hyy
      have c0 : DM.cum (2000 + (k : Int)) 0 = 0 := rfl
      have HS := Lib.hid (DM.cum_succ (2000 + (k : Int)))
      have HDR := Lib.hid (DM.dim_range (2000 + (k : Int)))
      have HCD := Lib.hid (fun m ww => days_any (2000 + (k : Int)) m ww)
      generalize DM.cum (2000 + (k : Int)) = cu at *
      generalize DM.dim (2000 + (k : Int)) = di at *
      have HC0 := Lib.hid c0
      clear c0
      go_wp2_with fail
      refine (HC.out _).mono ?_
      rintro e w1 ⟨rfl, rfl⟩
      go_wp2_with fail
      refine (HC2.out _).mono ?_
      rintro e w1 ⟨rfl, rfl⟩
      go_wp2
      go_loop [3, 6] (fun a b => ∃ j : Nat, ∃ r : Int, j ≤ J ∧ a = .int .i64 ((j : Int) + 1) ∧ b = .int .i64 r ∧ 0 ≤ r ∧ r ≤ 366 ∧ Hid (r = day - B - cu j)) (fun a _ => (13 - intOf a).toNat)
      case atStart => exact ⟨0, day - B, by omega, rfl, rfl, f1, f2, Lib.hid (by rw [HC0.out]; omega)⟩
      case round =>
        obtain ⟨j, r, hj, rfl, rfl, r1, r2, HRR⟩ := hrel
        have g1 := HDR.out ((j : Int) + 1)
        have g2 := HS.out j
        have g3 := HM.out j
        have HN : Hid (r - di ((j : Int) + 1) = day - B - cu (j + 1)) := Lib.hid (by rw [HRR.out, g2]; omega)
        have HCJ := Lib.hid (fun ww => HCD.out ((j : Int) + 1) ww)
        rw [g2] at g3
        have g4 : di ((j : Int) + 1) ≤ r ↔ j < J := by rw [← g3, HRR.out]; omega
        clear g2 g3
        generalize di ((j : Int) + 1) = dj at *
        obtain ⟨g11, g12⟩ := g1
        by_cases hlt2 : dj ≤ r
        · have g5 := g4.1 hlt2
          clear g4
          go_wp2_with fail
          refine (HCJ.out _).mono ?_
          rintro e w1 ⟨rfl, rfl⟩
          go_wp2_with fail
          refine (HCJ.out _).mono ?_
          rintro e w1 ⟨rfl, rfl⟩
          go_wp2
          go_round
          case rel => exact ⟨j + 1, _, by omega, by go_num, rfl, by omega, by omega, HN⟩
          case measure => simp [intOf]; omega
        · have hjJ : j = J := by
            rcases Nat.lt_or_ge j J with g | g
            · exact absurd (g4.2 g) hlt2
            · omega
          subst hjJ
          clear g4
          have HQ : Hid (d = r + 1 ∧ m = (j : Int) + 1) := Lib.hid ⟨by rw [← E1.out, HRR.out], by have := HJJ.out; omega⟩
          go_wp2_with fail
          refine (HCJ.out _).mono ?_
          rintro e w1 ⟨rfl, rfl⟩
          go_wp2
          (try simp only [Exit.inBlock, Exit.then]); refine bodyPost_ret (results_tmp4 rfl _ _ _) rfl ?_
          exact ⟨by rw [HQ.out.1, HQ.out.2]; rfl, rfl⟩

theorem split_no (day : Int) (w : World) (h : day < 0 ∨ 73048 < day) :
    Calls Tryd.prog 65 #[.int .i64 day] w fun e w' => e = .returned (.tuple #[.int .i64 0, .int .i64 0, .int .i64 0, .int .i64 15]) ∧ w = w' := by
  have hid := DM.isd_false h
  clear h
  go_enter Tryd.func65, Tryd.ntmps65
  go_wp2_with (go_at_call 89; refine (isDayD_any _ _).mono ?_; rintro e w' ⟨rfl, rfl⟩)
  (try simp only [Exit.inBlock, Exit.then]); refine bodyPost_ret (results_tmp4 rfl _ _ _) rfl ?_
  exact ⟨rfl, rfl⟩
end Go.Proofs.YtiohainnpjikpaaDoor

/- Contracts: two figures; a day's date by the reference. -/
namespace Go.Proofs.YtiohainnpjikpaaDoor
open Go.RowKit
set_option linter.unusedVariables false

theorem two_str (w : World) (n : Int) (h0 : 0 ≤ n) (h1 : n ≤ 99) :
    (convert 94 9 (.slice (some ⟨w.heap.size, 0, none⟩) 2 2)).run Tryd.prog (w.alloc (.cells #[.int .u8 (48 + n / 10), .int .u8 (48 + n % 10)] 5)) =
      .ok (.string (S [DM.ch (n / 10), DM.ch n])) (w.alloc (.cells #[.int .u8 (48 + n / 10), .int .u8 (48 + n % 10)] 5)) := by
  have hb := lit_bytes w [DM.ch (n / 10), DM.ch n] (0, 0) (by simp [maxLen])
  have e1 : ((DM.ch (n / 10)).toNat : Int) = 48 + n / 10 := by rw [DM.ch_toNat]; omega
  have e2 : ((DM.ch n).toNat : Int) = 48 + n % 10 := DM.ch_toNat n
  have := str_of hb 2
  simp only [List.map_cons, List.map_nil, byteV, e1, e2] at this
  exact this

set_option maxHeartbeats 1000000 in
theorem twoDigits_any (n : Int) (w : World) (h0 : 0 ≤ n) (h1 : n ≤ 99) :
    Calls Tryd.prog 66 #[.int .i64 n] w fun e w' => e = .returned (.string (S [DM.ch (n / 10), DM.ch n])) ∧ Below w.heap.size w w' := by
  have hs := two_str w n h0 h1
  generalize S [DM.ch (n / 10), DM.ch n] = t at *
  go_enter Tryd.func66, Tryd.ntmps66
  go_wp2
  go_ret
  exact ⟨rfl, (Below.refl _ _).alloc (Nat.le_refl _) _⟩

theorem fig_at {k : Int} (h0 : 0 ≤ k) (h1 : k ≤ 9) : L ((⟨#[48, 49, 50, 51, 52, 53, 54, 55, 56, 57]⟩ : ByteArray).extract k.toNat (k + 1).toNat) = [DM.ch k] := by
  rw [L_extract]
  have : k = 0 ∨ k = 1 ∨ k = 2 ∨ k = 3 ∨ k = 4 ∨ k = 5 ∨ k = 6 ∨ k = 7 ∨ k = 8 ∨ k = 9 := by omega
  rcases this with rfl | rfl | rfl | rfl | rfl | rfl | rfl | rfl | rfl | rfl <;> rfl
theorem ch_mod (n : Int) : DM.ch (n % 10) = DM.ch n := by unfold DM.ch; rw [Int.emod_emod]
theorem fig_two {n : Int} (h0 : 0 ≤ n) (h1 : n ≤ 99) :
    (⟨#[48, 49, 50, 51, 52, 53, 54, 55, 56, 57]⟩ : ByteArray).extract (n / 10 % 10).toNat (n / 10 % 10 + 1).toNat ++ (⟨#[48, 49, 50, 51, 52, 53, 54, 55, 56, 57]⟩ : ByteArray).extract (n % 10).toNat (n % 10 + 1).toNat = S [DM.ch (n / 10), DM.ch n] := by
  apply L_inj
  rw [L_append, L_S, fig_at (by omega) (by omega), fig_at (by omega) (by omega), ch_mod, ch_mod]
  rfl

set_option maxHeartbeats 1000000 in
theorem rsplit_any (day y m d : Int) (w : World) (h : DM.isDate day y m d) :
    Calls Tryd.prog 40 #[.int .i64 day] w fun e w' => e = .returned (.tuple #[.int .i64 y, .int .i64 m, .int .i64 d, .int .i64 0]) ∧ w = w' := by
  obtain ⟨e1, e2, e3, e4, e5⟩ := DM.split_day h
  have hy := DM.split_year h
  have hm := DM.split_month h
  obtain ⟨⟨p1, p2, p3, p4, p5, p6⟩, _⟩ := h
  have hbs := DM.before_succ
  have b0 : DM.before 0 = 0 := rfl
  generalize hK : (y - 2000).toNat = K at *
  generalize hJ : (m - 1).toNat = J at *
  generalize DM.before = be at *
  have E1 := Lib.hid e1; have HY := Lib.hid hy; have HM := Lib.hid hm; have HKK := Lib.hid hK; have HJJ := Lib.hid hJ
  have HE2 := Lib.hid e2; have HE3 := Lib.hid e3; have HBS := Lib.hid hbs; have HB0 := Lib.hid b0
  have k199 : K ≤ 199 := by omega
  have j11 : J ≤ 11 := by omega
  clear e1 hy hm hK hJ p6 e2 e3 hbs b0
  go_enter Tryd.func40, Tryd.ntmps40
  go_wp2
  go_loop [0, 6, 7] (fun a v n => ∃ k : Nat, ∃ x : Int, k ≤ K ∧ a = .int .i64 x ∧ 0 ≤ x ∧ x ≤ 73048 ∧ v = .int .i64 (2000 + (k : Int)) ∧ Hid (x = day - be k)) (fun _ v _ => (2200 - intOf v).toNat)
  case atStart => exact ⟨0, day, by omega, rfl, e4, e5, rfl, Lib.hid (by rw [HB0.out]; omega)⟩
  case round =>
    obtain ⟨k, x, hk, rfl, x1, x2, rfl, HX⟩ := hrel
    have hyk := HY.out k
    rw [HBS.out k] at hyk
    have hyl : DM.ylen (2000 + (k : Int)) ≤ x ↔ k < K := by rw [← hyk, HX.out]; omega
    have HN : Hid (x - DM.ylen (2000 + (k : Int)) = day - be (k + 1)) := Lib.hid (by rw [HX.out, HBS.out k]; omega)
    clear hyk
    by_cases hlt : DM.ylen (2000 + (k : Int)) ≤ x
    · have hk1 := hyl.1 hlt
      clear hyl
      cases hl : DM.leap (2000 + (k : Int))
      · have hyy : DM.ylen (2000 + (k : Int)) = 365 := by unfold DM.ylen; rw [hl]; rfl
        rw [hyy] at hlt HN
        clear hyy
        go_wp2_with (go_at_call 61; refine (rleap_any _ _).mono ?_; rintro e w' ⟨rfl, rfl⟩)
        go_round
        case rel => exact ⟨k + 1, _, by omega, rfl, by omega, by omega, by go_num, HN⟩
        case measure => simp [intOf]; omega
      · have hyy : DM.ylen (2000 + (k : Int)) = 366 := by unfold DM.ylen; rw [hl]; rfl
        rw [hyy] at hlt HN
        clear hyy
        go_wp2_with (go_at_call 61; refine (rleap_any _ _).mono ?_; rintro e w' ⟨rfl, rfl⟩)
        go_round
        case rel => exact ⟨k + 1, _, by omega, rfl, by omega, by omega, by go_num, HN⟩
        case measure => simp [intOf]; omega
    · have hkK : k = K := by
        rcases Nat.lt_or_ge k K with g | g
        · exact absurd (hyl.2 g) hlt
        · omega
      subst hkK
      have hyy : y = 2000 + (k : Int) := by have := HKK.out; omega
      subst hyy
      have f1 := HE2.out
      have f2 := HE3.out
      have c0 : DM.cum (2000 + (k : Int)) 0 = 0 := rfl
      have HS := Lib.hid (DM.cum_succ (2000 + (k : Int)))
      have HDR := Lib.hid (DM.dim_range (2000 + (k : Int)))
      have HCD := Lib.hid (fun m ww => rdays_any (2000 + (k : Int)) m ww)
      generalize DM.cum (2000 + (k : Int)) = cu at *
      generalize DM.dim (2000 + (k : Int)) = di at *
      have HC0 := Lib.hid c0
      clear c0 hyl HN
      rw [← HX.out] at f1 f2
      cases hl : DM.leap (2000 + (k : Int))
      all_goals
        have hyy : DM.ylen (2000 + (k : Int)) = (if DM.leap (2000 + (k : Int)) = true then 366 else 365) := rfl
        rw [hl] at hyy
        simp only [Bool.false_eq_true, if_false, if_true] at hyy
        rw [hyy] at hlt
        clear hyy
        go_wp2_with (go_at_call 61; refine (rleap_any _ _).mono ?_; rintro e w' ⟨rfl, rfl⟩)
        go_loop [0, 8] (fun b a => ∃ j : Nat, ∃ r : Int, j ≤ J ∧ a = .int .i64 ((j : Int) + 1) ∧ b = .int .i64 r ∧ 0 ≤ r ∧ r ≤ 366 ∧ Hid (r = day - be k - cu j)) (fun _ a => (13 - intOf a).toNat)
        case atStart => exact ⟨0, x, by omega, rfl, rfl, f1, f2, Lib.hid (by rw [HC0.out, HX.out]; omega)⟩
        case round =>
          obtain ⟨j, r, hj, rfl, rfl, r1, r2, HRR⟩ := hrel
          have g1 := HDR.out ((j : Int) + 1)
          have g2 := HS.out j
          have g3 := HM.out j
          have HN : Hid (r - di ((j : Int) + 1) = day - be k - cu (j + 1)) := Lib.hid (by rw [HRR.out, g2]; omega)
          have HCJ := Lib.hid (fun ww => HCD.out ((j : Int) + 1) ww)
          rw [g2] at g3
          have g4 : di ((j : Int) + 1) ≤ r ↔ j < J := by rw [← g3, HRR.out]; omega
          clear g2 g3
          generalize di ((j : Int) + 1) = dj at *
          obtain ⟨g11, g12⟩ := g1
          by_cases hlt2 : dj ≤ r
          · have g5 := g4.1 hlt2
            clear g4
            go_wp2_with fail
            refine (HCJ.out _).mono ?_
            rintro e w1 ⟨rfl, rfl⟩
            go_wp2_with fail
            refine (HCJ.out _).mono ?_
            rintro e w1 ⟨rfl, rfl⟩
            go_wp2
            go_round
            case rel => exact ⟨j + 1, _, by omega, by go_num, rfl, by omega, by omega, HN⟩
            case measure => simp [intOf]; omega
          · have hjJ : j = J := by
              rcases Nat.lt_or_ge j J with g | g
              · exact absurd (g4.2 g) hlt2
              · omega
            subst hjJ
            clear g4
            have HQ : Hid (d = r + 1 ∧ m = (j : Int) + 1) := Lib.hid ⟨by rw [← E1.out, HRR.out], by have := HJJ.out; omega⟩
            go_wp2_with fail
            refine (HCJ.out _).mono ?_
            rintro e w1 ⟨rfl, rfl⟩
            go_wp2
            (try simp only [Exit.inBlock, Exit.then]); refine bodyPost_ret (results_tmp4 rfl _ _ _) rfl ?_
            exact ⟨by rw [HQ.out.1, HQ.out.2]; rfl, rfl⟩

theorem rsplit_no (day : Int) (w : World) (h : day < 0 ∨ 73048 < day) :
    Calls Tryd.prog 40 #[.int .i64 day] w fun e w' => e = .returned (.tuple #[.int .i64 0, .int .i64 0, .int .i64 0, .int .i64 15]) ∧ w = w' := by
  rcases h with h | h
  · go_enter Tryd.func40, Tryd.ntmps40
    go_wp2
    (try simp only [Exit.inBlock, Exit.then]); refine bodyPost_ret (results_tmp4 rfl _ _ _) rfl ?_
    exact ⟨rfl, rfl⟩
  · go_enter Tryd.func40, Tryd.ntmps40
    go_wp2
    (try simp only [Exit.inBlock, Exit.then]); refine bodyPost_ret (results_tmp4 rfl _ _ _) rfl ?_
    exact ⟨rfl, rfl⟩
end Go.Proofs.YtiohainnpjikpaaDoor

/- Contracts: a day's text. -/
namespace Go.Proofs.YtiohainnpjikpaaDoor
open Go.RowKit
set_option linter.unusedVariables false

theorem ch_of_mod {a b : Int} (h : a % 10 = b % 10) : DM.ch a = DM.ch b := by unfold DM.ch; rw [h]
theorem date_cat {y m d : Int} : S [DM.ch (y / 100 / 10), DM.ch (y / 100)] ++ S [DM.ch (y % 100 / 10), DM.ch (y % 100)] ++ ⟨#[45]⟩ ++ S [DM.ch (m / 10), DM.ch m] ++ ⟨#[45]⟩ ++ S [DM.ch (d / 10), DM.ch d] = S (DM.dateL y m d) := by
  apply L_inj
  rw [L_append, L_append, L_append, L_append, L_append, L_S, L_S, L_S, L_S, L_S]
  unfold DM.dateL
  rw [ch_of_mod (a := y / 100 / 10) (b := y / 1000) (by omega), ch_of_mod (a := y % 100 / 10) (b := y / 10) (by omega), ch_of_mod (a := y % 100) (b := y) (by omega)]
  rfl

set_option maxHeartbeats 1000000 in
theorem print_any (day y m d : Int) (w : World) (h : DM.isDate day y m d) :
    Calls Tryd.prog 37 #[.int .i64 day] w fun e w' => e = .returned (.string (S (DM.dateL y m d))) ∧ Below w.heap.size w w' := by
  have CS := split_any day y m d w h
  rw [← date_cat]
  obtain ⟨⟨p1, p2, p3, p4, p5, p6⟩, _⟩ := h
  have d31 := (DM.dim_range y m).2
  have C1 := fun ww => twoDigits_any (y / 100) ww (by omega) (by omega)
  have C2 := fun ww => twoDigits_any (y % 100) ww (by omega) (by omega)
  have C3 := fun ww => twoDigits_any m ww (by omega) (by omega)
  have C4 := fun ww => twoDigits_any d ww (by omega) (by omega)
  have s1 : (S [DM.ch (y / 100 / 10), DM.ch (y / 100)]).size ≤ 2 := Nat.le_of_eq (S_size _)
  generalize S [DM.ch (y / 100 / 10), DM.ch (y / 100)] = t1 at *
  have s2 : (S [DM.ch (y % 100 / 10), DM.ch (y % 100)]).size ≤ 2 := Nat.le_of_eq (S_size _)
  generalize S [DM.ch (y % 100 / 10), DM.ch (y % 100)] = t2 at *
  have s3 : (S [DM.ch (m / 10), DM.ch m]).size ≤ 2 := Nat.le_of_eq (S_size _)
  generalize S [DM.ch (m / 10), DM.ch m] = t3 at *
  have s4 : (S [DM.ch (d / 10), DM.ch d]).size ≤ 2 := Nat.le_of_eq (S_size _)
  generalize S [DM.ch (d / 10), DM.ch d] = t4 at *
  have HS := Lib.hid CS; have H1 := Lib.hid C1; have H2 := Lib.hid C2; have H3 := Lib.hid C3; have H4 := Lib.hid C4
  clear CS C1 C2 C3 C4
  go_enter Tryd.func37, Tryd.ntmps37
  go_wp2_with fail
  refine HS.out.mono ?_
  rintro e w1 ⟨rfl, rfl⟩
  go_wp2_with fail
  refine (H1.out _).mono ?_
  rintro e w1 ⟨rfl, b1⟩
  have B1 := Lib.hid b1
  clear b1
  go_wp2_with fail
  refine (H2.out _).mono ?_
  rintro e w2 ⟨rfl, b2⟩
  have B2 := Lib.hid (B1.out.trans (b2.mono B1.out.size))
  clear b2 B1
  go_wp2_with fail
  refine (H3.out _).mono ?_
  rintro e w3 ⟨rfl, b3⟩
  have B3 := Lib.hid (B2.out.trans (b3.mono B2.out.size))
  clear b3 B2
  go_wp2_with fail
  refine (H4.out _).mono ?_
  rintro e w4 ⟨rfl, b4⟩
  have B4 := Lib.hid (B3.out.trans (b4.mono B3.out.size))
  clear b4 B3
  go_wp2
  go_ret
  exact ⟨rfl, B4.out⟩

theorem print_no (day : Int) (w : World) (h : day < 0 ∨ 73048 < day) :
    Calls Tryd.prog 37 #[.int .i64 day] w fun e w' => e = .returned (.string ⟨#[]⟩) ∧ w = w' := by
  have HS := Lib.hid (split_no day w h)
  clear h
  go_enter Tryd.func37, Tryd.ntmps37
  go_wp2_with fail
  refine HS.out.mono ?_
  rintro e w1 ⟨rfl, rfl⟩
  go_wp2
  go_ret
  exact ⟨rfl, rfl⟩

end Go.Proofs.YtiohainnpjikpaaDoor

/- Dates' texts rise with the days. -/
namespace DM
set_option linter.unusedVariables false
open Go

theorem ls_same (c : UInt8) (x y : List UInt8) : Op.bytesLess (c :: x) (c :: y) = Op.bytesLess x y := by
  have h : ¬ c < c := by intro h; have := UInt8.lt_iff_toNat_lt.1 h; omega
  simp [Op.bytesLess, h]
theorem ls_lt {a b : Int} (h : a % 10 < b % 10) (x y : List UInt8) : Op.bytesLess (ch a :: x) (ch b :: y) = true := by
  have h1 := ch_toNat a
  have h2 := ch_toNat b
  have : ch a < ch b := UInt8.lt_iff_toNat_lt.2 (by omega)
  simp [Op.bytesLess, this]
theorem ch_eq {a b : Int} (h : a % 10 = b % 10) : ch a = ch b := ch_of (ch_isD b) (by rw [ch_dv, h])
theorem ls_eq {a b : Int} (h : a % 10 = b % 10) (x y : List UInt8) : Op.bytesLess (ch a :: x) (ch b :: y) = Op.bytesLess x y := by rw [ch_eq h, ls_same]
theorem ls_two {a b : Int} (h0 : 0 ≤ a) (h : a < b) (hb : b ≤ 99) (x y : List UInt8) : Op.bytesLess (ch (a / 10) :: ch a :: x) (ch (b / 10) :: ch b :: y) = true := by
  by_cases h1 : a / 10 < b / 10
  · exact ls_lt (by omega) _ _
  · rw [ls_eq (by omega)]; exact ls_lt (by omega) _ _
theorem ls_four {a b : Int} (h0 : 0 ≤ a) (h : a < b) (hb : b ≤ 9999) (x y : List UInt8) : Op.bytesLess (ch (a / 1000) :: ch (a / 100) :: ch (a / 10) :: ch a :: x) (ch (b / 1000) :: ch (b / 100) :: ch (b / 10) :: ch b :: y) = true := by
  by_cases h1 : a / 1000 < b / 1000
  · exact ls_lt (by omega) _ _
  · rw [ls_eq (by omega)]
    by_cases h2 : a / 100 < b / 100
    · exact ls_lt (by omega) _ _
    · rw [ls_eq (by omega)]
      by_cases h3 : a / 10 < b / 10
      · exact ls_lt (by omega) _ _
      · rw [ls_eq (by omega)]; exact ls_lt (by omega) _ _
theorem dateL_less {y m d y' m' d' : Int} (h : okDate y m d) (h' : okDate y' m' d') (hl : y < y' ∨ (y = y' ∧ (m < m' ∨ (m = m' ∧ d < d')))) : Op.bytesLess (dateL y m d) (dateL y' m' d') = true := by
  obtain ⟨p1, p2, p3, p4, p5, p6⟩ := h
  obtain ⟨q1, q2, q3, q4, q5, q6⟩ := h'
  have r := (dim_range y m).2
  have r' := (dim_range y' m').2
  unfold dateL
  rcases hl with hl | ⟨rfl, hl⟩
  · exact ls_four (by omega) hl (by omega) _ _
  · rw [ls_same, ls_same, ls_same, ls_same, ls_same]
    rcases hl with hl | ⟨rfl, hl⟩
    · exact ls_two (by omega) hl (by omega) _ _
    · rw [ls_same, ls_same, ls_same]
      exact ls_two (by omega) hl (by omega) _ _
theorem ls_asymm : ∀ (x y : List UInt8), Op.bytesLess x y = true → Op.bytesLess y x = false ∧ x ≠ y := by
  intro x
  induction x with
  | nil =>
    intro y h
    cases y with
    | nil => cases h
    | cons b y => exact ⟨rfl, by simp⟩
  | cons a x ih =>
    intro y h
    cases y with
    | nil => cases h
    | cons b y =>
      by_cases e : a = b
      · subst e
        rw [ls_same] at h ⊢
        obtain ⟨h1, h2⟩ := ih y h
        exact ⟨h1, by simpa using h2⟩
      · have hn : a.toNat ≠ b.toNat := fun h => e (UInt8.toNat.inj h)
        have hab : a < b := by
          simp [Op.bytesLess, e] at h
          exact h
        have := UInt8.lt_iff_toNat_lt.1 hab
        have hba : ¬ b < a := by intro h; have := UInt8.lt_iff_toNat_lt.1 h; omega
        exact ⟨by simp [Op.bytesLess, hba, Ne.symm e], by simp [e]⟩
/-- the next day's text is the greater one -/
theorem dateL_next {day y m d y' m' d' : Int} (h : isDate day y m d) (h' : isDate (day + 1) y' m' d') (hl : day < 73048) : Op.bytesLess (dateL y m d) (dateL y' m' d') = true := by
  obtain ⟨e1, e2, e3⟩ := isDate_unique (isDate_next h hl) h'
  refine dateL_less h.1 h'.1 ?_
  by_cases c1 : d < dim y m
  · simp only [c1, if_true] at e1 e2 e3
    right; refine ⟨e1, .inr ⟨e2, by omega⟩⟩
  · by_cases c2 : m < 12
    · simp only [c1, c2, if_false, if_true] at e1 e2 e3
      right; exact ⟨e1, .inl (by omega)⟩
    · simp only [c1, c2, if_false] at e1 e2 e3
      left; omega
end DM
