/- What the program's own readers of digits reckon. -/
import Derived.Test.YtegipokbbmnahaaWordMath3
namespace WM

theorem digits_nil : digits [] = false := rfl
/-- one digit or more, no nought ahead -/
theorem digits_def {l : List UInt8} (h : 0 < l.length) : digits l = (!((l.headD 0 == 48) && decide (1 < l.length)) && l.all dig) := by
  unfold digits
  by_cases h1 : l.length = 1
  · have e1 : (l.length == 1) = true := by simpa using h1
    have e2 : decide (1 < l.length) = false := by simp; omega
    rw [e1, e2]; simp
  · have e1 : (l.length == 1) = false := by simpa using h1
    have e2 : decide (1 < l.length) = true := by simp; omega
    rw [e1, e2]
    cases hh : (l.headD 0 == 48) with
    | true => simp only [bne, hh]; simp
    | false => simp only [bne, hh]; simp
/-- the value, but for what is above the greatest -/
def mval (l : List UInt8) : Int := min (val l) (most + 1)
theorem val_take {l : List UInt8} (h : l.all dig = true) (k : Nat) (hk : k < l.length) : 10 * val (l.take k) ≤ val l := by
  have key : ∀ n, ∀ l : List UInt8, l.length = k + 1 + n → l.all dig = true → 10 * val (l.take k) ≤ val l := by
    intro n
    induction n with
    | zero =>
      intro l hl hd
      have e : l = l.take k ++ [l[k]] := by
        rw [← take_snoc l k (by omega), List.take_of_length_le (by omega)]
      have h1 := dval_range (all_get hd k (by omega))
      have h2 : val l = 10 * val (l.take k) + dval l[k] := by
        conv => lhs; rw [e]
        rw [val_snoc]
      omega
    | succ n ih =>
      intro l hl hd
      have e : l = l.take (k + 1 + n) ++ [l[k + 1 + n]] := by
        rw [← take_snoc l _ (by omega), List.take_of_length_le (by omega)]
      have h0 := ih (l.take (k + 1 + n)) (by rw [List.length_take]; omega) (all_take hd _)
      rw [List.take_take, show min k (k + 1 + n) = k by omega] at h0
      have h1 := dval_range (all_get hd (k + 1 + n) (by omega))
      have h2 : val l = 10 * val (l.take (k + 1 + n)) + dval l[k + 1 + n] := by
        conv => lhs; rw [e]
        rw [val_snoc]
      have h3 := val_nonneg (all_take hd (k + 1 + n))
      omega
  exact key (l.length - (k + 1)) l (by omega) h
theorem mval_stop {l : List UInt8} (h : l.all dig = true) (k : Nat) (hk : k < l.length) (hv : 115292150460684697 < mval (l.take k)) : mval l = 1152921504606846977 := by
  have := val_take h k hk
  unfold mval most at *
  omega
theorem mval_step {l : List UInt8} (h : l.all dig = true) {c : UInt8} (hc : dig c = true) (hv : ¬ 115292150460684697 < mval l) : mval (l ++ [c]) = min (10 * mval l + dval c) 1152921504606846977 ∧ 0 ≤ mval l := by
  have := val_nonneg h
  have := dval_range hc
  unfold mval most at *
  rw [val_snoc]
  omega
theorem mval_range {l : List UInt8} (h : l.all dig = true) : 0 ≤ mval l ∧ mval l ≤ 1152921504606846977 := by
  have := val_nonneg h
  unfold mval most at *
  omega
theorem sign_mval {l : List UInt8} (h : l.all dig = true) (b : Bool) : signE (mval l) b = signE (val l) b ∧ signN (mval l) b = signN (val l) b := by
  have := val_nonneg h
  by_cases c : val l ≤ most
  · have : mval l = val l := by unfold mval; omega
    rw [this]; exact ⟨rfl, rfl⟩
  · have c' : most < val l := by omega
    have c2 : most < mval l := by unfold mval; omega
    have z1 : val l ≠ 0 := by unfold most at *; omega
    have z2 : mval l ≠ 0 := by unfold most at *; omega
    simp [signE, signN, c', c2, z1, z2]
theorem sval_stop {l : List UInt8} (h : l.all dig = true) (k : Nat) (hk : k < l.length) (hv : 115292150460684697 < sval (l.take k)) : most < val l := by
  have h1 := val_take h k hk
  have h2 := sval_val (all_take h k)
  have h3 := val_nonneg (all_take h k)
  unfold most at *
  by_cases c : val (l.take k) ≤ 1152921504606846976
  · have := h2.2.1 c; omega
  · omega
theorem sval_over {l : List UInt8} (k : Nat) (hk : k < l.length) (hv : 115292150460684697 < sval (l.take k)) : sval l = 1152921504606846977 := by
  have key : ∀ n, k + 1 + n ≤ l.length → sval (l.take (k + 1 + n)) = 1152921504606846977 := by
    intro n
    induction n with
    | zero =>
      intro h
      rw [take_snoc l k hk, sval_snoc, if_pos hv]; rfl
    | succ n ih =>
      intro h
      have e := ih (by omega)
      rw [show k + 1 + (n + 1) = (k + 1 + n) + 1 by omega, take_snoc l _ (by omega), sval_snoc, e, if_pos (by omega)]; rfl
  have := key (l.length - (k + 1)) (by omega)
  rw [List.take_of_length_le (by omega)] at this
  exact this
/-- what the reference's reader answers -/
def rval (l : List UInt8) : Int := if most < val l then most + 1 else val l
theorem sign_cases (v : Int) (b : Bool) : signE v b = (if b = true ∧ v = 0 then 5 else if most < v then 3 else 0) := rfl
end WM
