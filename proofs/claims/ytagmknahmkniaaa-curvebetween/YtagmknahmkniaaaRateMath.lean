/- What conversions by two rates do: there and back; more is no less. -/
import Derived.Test.YtagmknahmkniaaaCentsLaws
namespace CM
set_option linter.unusedVariables false

/-- both rates above nought: the sign is the amount's -/
theorem neg_of {a b c : Int} (hb : 0 < b) (hc : 0 < c) : neg a b c = decide (a < 0) := by
  unfold neg
  rw [decide_eq_false (show ¬ b < 0 by omega), decide_eq_false (show ¬ c < 0 by omega)]
  cases decide (a < 0) <;> rfl
theorem size_of {b : Int} (hb : 0 < b) : size b = b := by unfold size; rw [if_neg (by omega)]
/-- an amount's errors: of what may be asked, only that it is too great -/
theorem md_err {a b c mode : Int} (ha : fits a = true) (hb : fits b = true) (hc : fits c = true) (h0 : c ≠ 0) (h1 : 1 ≤ mode) (h5 : mode ≤ 5) : mdE a b c mode ≠ 0 → mdN a b c mode = 0 ∧ mdE a b c mode = 3 := by
  have hA : mdA a b c mode = true := by simp [mdA, ha, hb, hc, h1, h5]
  intro h
  by_cases hg : mdG a b c mode ≤ 1152921504606846976
  · exfalso; apply h; simp [mdE, hA, h0, hg]
  · simp [mdN, mdE, hA, h0, hg]
theorem down_q (a b c : Int) : mdG a b c 1 = mdQ a b c := by unfold mdG; simp [grow]
/-- there and back, by Down -/
theorem there_back {n f t : Int} (hn : fits n = true) (hf : 0 < f) (ht : 0 < t) (ff : fits f = true) (ft : fits t = true) (he : mdE n f t 1 = 0) :
    mdE (mdN n f t 1) t f 1 = 0 ∧
      ((n < 0 → mdN (mdN n f t 1) t f 1 ≤ 0 ∧ n ≤ mdN (mdN n f t 1) t f 1 ∧ mdN n f t 1 ≤ 0) ∧ (0 ≤ n → 0 ≤ mdN (mdN n f t 1) t f 1 ∧ mdN (mdN n f t 1) t f 1 ≤ n ∧ 0 ≤ mdN n f t 1)) := by
  obtain ⟨_, _, hg, hm⟩ := md_ok he
  rw [down_q] at hg hm
  rw [neg_of hf ht] at hm
  have q0 := mdQ_nonneg n f t
  -- sizes
  have hs : size (mdN n f t 1) = mdQ n f t := by
    rw [hm]
    by_cases h : n < 0
    · simp only [h, decide_true, if_true]; unfold size; split <;> omega
    · simp only [h, decide_false, Bool.false_eq_true, if_false]; unfold size; split <;> omega
  have hmf : fits (mdN n f t 1) = true := by
    rw [fits_true, hm]
    split <;> omega
  have hle : mdQ n f t * t.toNat ≤ (size n).toNat * f.toNat := by
    unfold mdQ
    rw [size_of hf, size_of ht]
    exact Nat.div_mul_le_self _ _
  have hq2 : mdQ (mdN n f t 1) t f ≤ (size n).toNat := by
    have e : mdQ (mdN n f t 1) t f = (mdQ n f t) * t.toNat / f.toNat := by
      show (size (mdN n f t 1)).toNat * (size t).toNat / (size f).toNat = _
      rw [hs, size_of hf, size_of ht]; rfl
    rw [e]
    have h1 : mdQ n f t * t.toNat / f.toNat ≤ (size n).toNat * f.toNat / f.toNat := Nat.div_le_div_right hle
    rw [Nat.mul_div_cancel _ (by omega)] at h1
    exact h1
  obtain ⟨n1, n2⟩ := fits_true.1 hn
  have hsn := size_le n1 n2
  have hsn0 := size_nonneg n
  have hA2 : mdA (mdN n f t 1) t f 1 = true := by simp [mdA, hmf, ff, ft]
  have hg2 : mdG (mdN n f t 1) t f 1 ≤ 1152921504606846976 := by rw [down_q]; omega
  have e2 : mdE (mdN n f t 1) t f 1 = 0 := by simp [mdE, hA2, show f ≠ 0 by omega, hg2]
  obtain ⟨_, _, _, hb⟩ := md_ok e2
  rw [down_q, neg_of ht hf] at hb
  have q2 := mdQ_nonneg (mdN n f t 1) t f
  generalize mdQ (mdN n f t 1) t f = Q2 at *
  generalize mdQ n f t = Q at *
  have hz : n < 0 → size n = -n := fun h => by unfold size; rw [if_pos h]
  have hz2 : 0 ≤ n → size n = n := fun h => by unfold size; rw [if_neg (by omega)]
  refine ⟨e2, fun h => ?_, fun h => ?_⟩
  · rw [hb]
    simp only [h, decide_true, if_true] at hm
    have := hz h
    rw [hm]
    by_cases c : (-(Q : Int)) < 0
    · simp only [c, decide_true, if_true]; omega
    · have hQ : Q = 0 := by omega
      subst hQ
      have : mdN n f t 1 = 0 := by rw [hm]; rfl
      simp only [c, decide_false, Bool.false_eq_true, if_false]
      -- nought turned back is nought
      have hbz : size (mdN n f t 1) = 0 := by rw [this]; rfl
      rw [this] at hb
      have hq0 : mdN 0 t f 1 = Q2 := by rw [hb]; rfl
      have hq1 : mdQ 0 t f = 0 := by unfold mdQ; simp [size]
      have := (md_ok (a := 0) (b := t) (c := f) (mode := 1) (by rw [‹mdN n f t 1 = 0›] at e2; exact e2)).2.2.2
      rw [down_q, hq1, neg_of ht hf] at this
      have h00 : mdN 0 t f 1 = 0 := by rw [this]; rfl
      omega
  · rw [hb]
    have hnn : ¬ n < 0 := by omega
    simp only [hnn, decide_false, Bool.false_eq_true, if_false] at hm
    have := hz2 h
    rw [hm]
    have c : ¬ ((Q : Int) < 0) := by omega
    simp only [c, decide_false, Bool.false_eq_true, if_false]
    omega

theorem grow_mono {q r r' c mode : Int} {n : Bool} (h0 : 0 ≤ r) (h : r ≤ r') (hg : grow q r c mode n = true) : grow q r' c mode n = true := by
  unfold grow at hg ⊢
  by_cases hr : r = 0
  · rw [if_pos hr] at hg; cases hg
  · rw [if_neg hr] at hg
    rw [if_neg (by omega)]
    by_cases h2 : mode = 2
    · rw [if_pos h2]
    · rw [if_neg h2] at hg ⊢
      by_cases h3 : mode = 3
      · rw [if_pos h3] at hg ⊢; exact hg
      · rw [if_neg h3] at hg ⊢
        by_cases h4 : mode = 4
        · rw [if_pos h4] at hg ⊢; exact hg
        · rw [if_neg h4] at hg ⊢
          by_cases h5 : mode = 5
          · rw [if_pos h5] at hg ⊢
            simp only [Bool.or_eq_true, Bool.and_eq_true, decide_eq_true_eq] at hg ⊢
            rcases hg with g | ⟨g1, g2⟩
            · left; omega
            · by_cases e : 2 * r' = c
              · right; exact ⟨e, g2⟩
              · left; omega
          · rw [if_neg h5] at hg; cases hg
/-- of two amounts of one sign the greater one's quotient is not less -/
theorem g_mono {a a' b c mode : Int} (hb : 0 < b) (hc : 0 < c) (hs : size a ≤ size a') (hn : neg a b c = neg a' b c) : mdG a b c mode ≤ mdG a' b c mode := by
  have h0 := size_nonneg a
  have hN : (size a).toNat * (size b).toNat ≤ (size a').toNat * (size b).toNat := Nat.mul_le_mul_right _ (by omega)
  have hcn : 0 < (size c).toNat := by rw [size_of hc]; omega
  have hq : mdQ a b c ≤ mdQ a' b c := Nat.div_le_div_right hN
  have e1 : (size c).toNat * mdQ a b c + mdR a b c = (size a).toNat * (size b).toNat := Nat.div_add_mod _ _
  have e2 : (size c).toNat * mdQ a' b c + mdR a' b c = (size a').toNat * (size b).toNat := Nat.div_add_mod _ _
  unfold mdG
  rw [← hn]
  rcases Nat.lt_or_ge (mdQ a b c) (mdQ a' b c) with g | g
  · split <;> split <;> omega
  · have he : mdQ a b c = mdQ a' b c := by omega
    rw [← he] at e2 ⊢
    have hr : (mdR a b c : Int) ≤ mdR a' b c := by omega
    by_cases hg : grow (mdQ a b c) (mdR a b c) (size c) mode (neg a b c) = true
    · rw [if_pos hg, if_pos (grow_mono (Int.natCast_nonneg _) hr hg)]; exact Int.le_refl _
    · rw [if_neg hg]; split <;> omega
theorem g_nonneg (a b c mode : Int) : 0 ≤ mdG a b c mode := by
  have := mdQ_nonneg a b c
  unfold mdG; split <;> omega
/-- more is turned into no less -/
theorem md_rises {a a' b c mode : Int} (hb : 0 < b) (hc : 0 < c) (h : a ≤ a') (e : mdE a b c mode = 0) (e' : mdE a' b c mode = 0) : mdN a b c mode ≤ mdN a' b c mode := by
  obtain ⟨_, _, _, h1⟩ := md_ok e
  obtain ⟨_, _, _, h2⟩ := md_ok e'
  rw [h1, h2]
  have g1 := g_nonneg a b c mode
  have g2 := g_nonneg a' b c mode
  have n1 := neg_of (a := a) hb hc
  have n2 := neg_of (a := a') hb hc
  by_cases s1 : a < 0
  · by_cases s2 : a' < 0
    · have hg := g_mono (a := a') (a' := a) (b := b) (c := c) (mode := mode) hb hc (by unfold size; rw [if_pos s1, if_pos s2]; omega) (by rw [n1, n2]; simp [s1, s2])
      rw [n1, n2]
      simp only [s1, s2, decide_true, if_true]
      omega
    · rw [n1, n2]
      simp only [s1, s2, decide_true, decide_false, if_true, Bool.false_eq_true, if_false]
      omega
  · have s2 : ¬ a' < 0 := by omega
    have hg := g_mono (a := a) (a' := a') (b := b) (c := c) (mode := mode) hb hc (by unfold size; rw [if_neg s1, if_neg s2]; omega) (by rw [n1, n2]; simp [s1, s2])
    rw [n1, n2]
    simp only [s1, s2, decide_false, Bool.false_eq_true, if_false]
    omega
end CM
