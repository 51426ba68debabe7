/- What Add, Count and Expiry answer. -/
import Derived.Test.YthahfcehfagepaaWorkC
namespace KM
set_option linter.unusedVariables false

def addO (W : Int → Bool) (day n : Int) : Option Int :=
  if 0 < n then up W (73048 - day).toNat (day + 1) n.toNat
  else if n < 0 then down W day.toNat (day - 1) (-n).toNat
  else if W day = true then some day else up W (73048 - day).toNat (day + 1) 1
theorem add_pos {W : Int → Bool} {day n : Int} (h0 : 0 ≤ day) (h1 : day ≤ 73048) (hn : 0 < n) : rkO W ((unt W day : Int) + n) = addO W day n := by
  unfold addO
  rw [if_pos hn, ← rk_up (by omega) h1 (by omega)]
  congr 1; omega
theorem add_neg {W : Int → Bool} {day n : Int} (h0 : 0 ≤ day) (h1 : day ≤ 73048) (hn : ¬ 0 < n) : rkO W ((unt W (day - 1) : Int) + 1 + n) = addO W day n := by
  unfold addO
  rw [if_neg hn]
  by_cases h : n < 0
  · rw [if_pos h, ← rk_down h0 (by omega) (by omega)]
    congr 1; omega
  · rw [if_neg h, ← rk_on h0 h1]
    congr 1; omega
theorem add_far {W : Int → Bool} {day n : Int} (h0 : 0 ≤ day) (h1 : day ≤ 73048) (hn : n < -73048 ∨ 73048 < n) : addO W day n = none := by
  unfold addO
  rcases hn with hn | hn
  · rw [if_neg (by omega), if_pos (by omega)]
    apply down_no (by omega)
    have := cnt_le W (day - 1 - ((day.toNat : Nat) : Int) + 1) day.toNat
    omega
  · rw [if_pos (by omega)]
    apply up_no (by omega)
    have := cnt_le W (day + 1) (73048 - day).toNat
    omega
/-- where an answer lies -/
theorem add_in {W : Int → Bool} {day n x : Int} (h0 : 0 ≤ day) (h1 : day ≤ 73048) (h : addO W day n = some x) : 0 ≤ x ∧ x ≤ 73048 ∧ W x = true := by
  unfold addO at h
  by_cases c1 : 0 < n
  · rw [if_pos c1] at h
    obtain ⟨a1, a2, a3, _⟩ := up_some (by omega) h
    exact ⟨by omega, by omega, a3⟩
  · rw [if_neg c1] at h
    by_cases c2 : n < 0
    · rw [if_pos c2] at h
      obtain ⟨a1, a2, a3, _⟩ := down_some (by omega) h
      exact ⟨by omega, by omega, a3⟩
    · rw [if_neg c2] at h
      by_cases c3 : W day = true
      · rw [if_pos c3] at h
        injection h with h
        subst h
        exact ⟨h0, h1, c3⟩
      · rw [if_neg c3] at h
        obtain ⟨a1, a2, a3, _⟩ := up_some (by omega) h
        exact ⟨by omega, by omega, a3⟩
def oN (o : Option Int) : Int := o.getD 0
def oE (o : Option Int) : Int := if o.isSome = true then 0 else 15
def adE (zs : List Int) (day n : Int) : Int := if cdE zs day = 0 then oE (addO (works zs) day n) else cdE zs day
def adN (zs : List Int) (day n : Int) : Int := if cdE zs day = 0 then oN (addO (works zs) day n) else 0
theorem ad_ok {zs : List Int} {day n : Int} (h : cdE zs day = 0) : adN zs day n = oN (addO (works zs) day n) ∧ adE zs day n = oE (addO (works zs) day n) := by
  unfold adN adE; rw [if_pos h, if_pos h]; exact ⟨rfl, rfl⟩
theorem ad_no {zs : List Int} {day n : Int} (h : cdE zs day ≠ 0) : adN zs day n = 0 ∧ adE zs day n = cdE zs day := by
  unfold adN adE; rw [if_neg h, if_neg h]; exact ⟨rfl, rfl⟩
theorem oE_zero {o : Option Int} (h : oE o = 0) : ∃ x, o = some x ∧ oN o = x := by
  cases o with
  | none => unfold oE at h; simp at h
  | some x => exact ⟨x, rfl, rfl⟩
theorem ad_some {zs : List Int} {day n : Int} (h : adE zs day n = 0) : cdE zs day = 0 ∧ ∃ x, addO (works zs) day n = some x ∧ adN zs day n = x := by
  by_cases hc : cdE zs day = 0
  · rw [(ad_ok hc).2] at h
    obtain ⟨x, e1, e2⟩ := oE_zero h
    exact ⟨hc, x, e1, by rw [(ad_ok hc).1, e2]⟩
  · rw [(ad_no hc).2] at h; exact absurd h hc

/-! Count -/
def coE (zs : List Int) (a b : Int) : Int := if checkE zs = 0 then (if (DM.isd a && DM.isd b) = true then 0 else 15) else checkE zs
def coN (zs : List Int) (a b : Int) : Int := if coE zs a b = 0 then (count (works zs) a b : Int) else 0
theorem co_bad {zs : List Int} {a b : Int} (h : checkE zs ≠ 0) : coN zs a b = 0 ∧ coE zs a b = checkE zs := by
  have e : coE zs a b = checkE zs := by unfold coE; rw [if_neg h]
  refine ⟨?_, e⟩
  unfold coN; rw [if_neg (by rw [e]; exact h)]
theorem co_no {zs : List Int} {a b : Int} (h : checkE zs = 0) (hd : DM.isd a = false ∨ DM.isd b = false) : coN zs a b = 0 ∧ coE zs a b = 15 := by
  have e : coE zs a b = 15 := by
    unfold coE
    rw [if_pos h]
    rcases hd with hd | hd <;> rw [hd] <;> simp
  refine ⟨?_, e⟩
  unfold coN; rw [if_neg (by rw [e]; decide)]
theorem co_ok {zs : List Int} {a b : Int} (h : checkE zs = 0) (ha : DM.isd a = true) (hb : DM.isd b = true) : coN zs a b = (count (works zs) a b : Int) ∧ coE zs a b = 0 := by
  have e : coE zs a b = 0 := by unfold coE; rw [if_pos h, ha, hb]; rfl
  refine ⟨?_, e⟩
  unfold coN; rw [if_pos e]
theorem co_zero {zs : List Int} {a b : Int} (h : coE zs a b = 0) : checkE zs = 0 ∧ DM.isd a = true ∧ DM.isd b = true := by
  by_cases hc : checkE zs = 0
  · cases ha : DM.isd a with
    | false => rw [(co_no hc (.inl ha)).2] at h; omega
    | true =>
      cases hb : DM.isd b with
      | false => rw [(co_no hc (.inr hb)).2] at h; omega
      | true => exact ⟨hc, rfl, rfl⟩
  · rw [(co_bad hc).2] at h; exact absurd h hc
theorem count_unt (W : Int → Bool) {a b : Int} (h0 : 0 ≤ a) (h : a ≤ b) : (unt W b : Int) - unt W (a - 1) = count W a b := by
  have := unt_add W (a := a - 1) (b := b) (by omega) (by omega)
  rw [show a - 1 + 1 = a by omega, show (b - (a - 1)).toNat = (b - a + 1).toNat by omega] at this
  unfold count; omega
theorem count_none (W : Int → Bool) {a b : Int} (h : b < a) : count W a b = 0 := by
  unfold count; rw [show (b - a + 1).toNat = 0 by omega]; rfl

/-! Expiry -/
def exO (W : Int → Bool) (f : Int) : Option Int := if W f = true then some f else down W f.toNat (f - 1) 1
def exE (zs : List Int) (y m : Int) : Int := if checkE zs = 0 then (if DM.nthE y m 5 3 = 0 then oE (exO (works zs) (DM.nthN y m 5 3)) else DM.nthE y m 5 3) else checkE zs
def exN (zs : List Int) (y m : Int) : Int := if checkE zs = 0 then (if DM.nthE y m 5 3 = 0 then oN (exO (works zs) (DM.nthN y m 5 3)) else 0) else 0
theorem ex_bad {zs : List Int} {y m : Int} (h : checkE zs ≠ 0) : exN zs y m = 0 ∧ exE zs y m = checkE zs := by
  unfold exN exE; rw [if_neg h, if_neg h]; exact ⟨rfl, rfl⟩
theorem ex_no {zs : List Int} {y m : Int} (h : checkE zs = 0) (h2 : DM.nthE y m 5 3 ≠ 0) : exN zs y m = 0 ∧ exE zs y m = DM.nthE y m 5 3 := by
  unfold exN exE; rw [if_pos h, if_pos h, if_neg h2, if_neg h2]; exact ⟨rfl, rfl⟩
theorem ex_ok {zs : List Int} {y m : Int} (h : checkE zs = 0) (h2 : DM.nthE y m 5 3 = 0) : exN zs y m = oN (exO (works zs) (DM.nthN y m 5 3)) ∧ exE zs y m = oE (exO (works zs) (DM.nthN y m 5 3)) := by
  unfold exN exE; rw [if_pos h, if_pos h, if_pos h2, if_pos h2]; exact ⟨rfl, rfl⟩
theorem nth_in {y m wd n : Int} (h : DM.nthE y m wd n = 0) : 0 ≤ DM.nthN y m wd n ∧ DM.nthN y m wd n ≤ 73048 ∧ DM.okDate y m (DM.nthD y m wd n) ∧ DM.nthN y m wd n = DM.dayOf y m (DM.nthD y m wd n) := by
  have e : DM.nthN y m wd n = DM.dayOf y m (DM.nthD y m wd n) := by unfold DM.nthN; rw [if_pos h]
  have hok : DM.okDate y m (DM.nthD y m wd n) := by
    unfold DM.nthE at h
    split at h
    · omega
    · split at h
      · assumption
      · omega
  obtain ⟨_, _, _, _, a, b⟩ := DM.day_in hok
  rw [e]
  exact ⟨a, b, hok, rfl⟩
end KM
