/- The digits of a number, at least so many. -/
import Derived.Test.YtegipokbbmnahaaCatMath
namespace WM
set_option linter.unusedVariables false
def dp (u k : Nat) : List UInt8 := if h : u = 0 ∧ k = 0 then [] else dp (u / 10) (k - 1) ++ [UInt8.ofNat (48 + u % 10)]
termination_by u + k
decreasing_by omega
theorem dp_done : dp 0 0 = [] := by rw [dp]; simp
theorem dp_step {u k : Nat} (h : 0 < u ∨ 0 < k) : dp u k = dp (u / 10) (k - 1) ++ [UInt8.ofNat (48 + u % 10)] := by
  rw [dp, dif_neg (by omega)]
theorem dp_dec (u : Nat) : (0 < u → dp u 0 = dec u) ∧ dp u 1 = dec u := by
  induction u using dec.induct with
  | case1 u h =>
    rw [dec_small h]
    have e : u / 10 = 0 := by omega
    have e2 : u % 10 = u := by omega
    constructor
    · intro h0
      rw [dp_step (.inl h0), e, dp_done, e2]; rfl
    · rw [dp_step (.inr (by omega)), e, dp_done, e2]; rfl
  | case2 u h ih =>
    rw [dec_big h]
    have e := ih.1 (by omega)
    constructor
    · intro h0
      rw [dp_step (.inl h0)]; show dp (u / 10) 0 ++ _ = _; rw [e]
    · rw [dp_step (.inr (by omega))]; show dp (u / 10) 0 ++ _ = _; rw [e]
theorem dp_three (u : Nat) : dp u 3 = dec (u / 100) ++ [UInt8.ofNat (48 + u / 10 % 10), UInt8.ofNat (48 + u % 10)] := by
  rw [dp_step (.inr (by omega))]
  show dp (u / 10) 2 ++ _ = _
  rw [dp_step (.inr (by omega))]
  show dp (u / 10 / 10) 1 ++ _ ++ _ = _
  rw [(dp_dec _).2, show u / 10 / 10 = u / 100 by omega]
  simp
/-- with the digits behind that are there already -/
theorem dp_go {u x r : Nat} {ws full : List UInt8} (h : dp x r ++ ws = full) (hc : 0 < x ∨ 0 < r) : dp (x / 10) (r - 1) ++ (UInt8.ofNat (48 + x % 10) :: ws) = full := by
  rw [dp_step hc] at h
  simpa using h
theorem pow_step (u j : Nat) : u / 10 ^ (j + 1) = u / 10 ^ j / 10 := by rw [Nat.pow_succ, Nat.div_div_eq_div_mul]
theorem pow_end {u : Nat} (h : u < 18446744073709551616) : u / 10 ^ 20 = 0 := Nat.div_eq_of_lt (by omega)
end WM
