import Derived.Test.YtagmknahmkniaaaCentsDiv2
namespace CM

theorem mul_spec {a b : Int} (ha : fits a = true) (hb : fits b = true) :
    (size a * size b ≤ 1152921504606846976 → mdN a b 1 1 = a * b ∧ mdE a b 1 1 = 0) ∧
    (1152921504606846976 < size a * size b → mdN a b 1 1 = 0 ∧ mdE a b 1 1 = 3) := by
  have hA : mdA a b 1 1 = true := by simp [mdA, ha, hb]; decide
  have h1 : size 1 = 1 := rfl
  have hR : mdR a b 1 = 0 := by simp [mdR, h1, Nat.mod_one]
  have hQ : (mdQ a b 1 : Int) = size a * size b := by
    have := size_nonneg a
    have := size_nonneg b
    simp only [mdQ, h1, Int.toNat_one, Nat.div_one, Int.natCast_mul]
    rw [Int.toNat_of_nonneg ‹_›, Int.toNat_of_nonneg ‹_›]
  have hG : mdG a b 1 1 = size a * size b := by
    unfold mdG; rw [hR, hQ]; simp [grow]
  constructor
  · intro hle
    rw [← hG] at hle
    simp only [mdN, mdE, hA, hle, if_true]
    refine ⟨?_, by simp⟩
    rw [if_neg (by omega), hG]
    unfold neg size
    by_cases s1 : a < 0 <;> by_cases s2 : b < 0 <;> simp [s1, s2, Int.neg_mul, Int.mul_neg]
  · intro hlt
    rw [← hG] at hlt
    have hn : ¬ mdG a b 1 1 ≤ 1152921504606846976 := by omega
    simp [mdN, mdE, hA, hn]

theorem mul_arg {a b : Int} (h : fits a = false ∨ fits b = false) : mdN a b 1 1 = 0 ∧ mdE a b 1 1 = 2 := by
  have hA : mdA a b 1 1 = false := by rcases h with h | h <;> simp [mdA, h]
  simp [mdN, mdE, hA]

theorem over_iff {a b : Int} (ha : a ≠ 0) : 1152921504606846976 / size a < size b ↔ 1152921504606846976 < size a * size b := by
  rw [Int.ediv_lt_iff_lt_mul (size_pos ha), Int.mul_comm]

theorem size_mul (a b : Int) : size a * size b = size (a * b) := by
  unfold size
  by_cases s1 : a < 0 <;> by_cases s2 : b < 0
  · have : 0 < a * b := Int.mul_pos_of_neg_of_neg s1 s2
    simp only [s1, s2, if_true]; rw [if_neg (by omega), Int.neg_mul_neg]
  · rcases Int.lt_or_eq_of_le (Int.not_lt.1 s2) with h | h
    · have : a * b < 0 := Int.mul_neg_of_neg_of_pos s1 h
      simp only [s1, s2, this, if_true, if_false]; rw [Int.neg_mul]
    · subst h; simp
  · rcases Int.lt_or_eq_of_le (Int.not_lt.1 s1) with h | h
    · have : a * b < 0 := Int.mul_neg_of_pos_of_neg h s2
      simp only [s1, s2, this, if_true, if_false]; rw [Int.mul_neg]
    · subst h; simp
  · have : 0 ≤ a * b := Int.mul_nonneg (by omega) (by omega)
    simp only [s1, s2, if_false]; rw [if_neg (by omega)]

theorem mul_in {a b : Int} (h : size a * size b ≤ 1152921504606846976) : -1152921504606846976 ≤ a * b ∧ a * b ≤ 1152921504606846976 := by
  rw [size_mul] at h
  unfold size at h
  split at h <;> omega
end CM
