/- Plain mathematics of the laws of layer 1. -/
import Derived.Test.YtagmknahmkniaaaCentsMul
namespace CM

theorem add_back {a b : Int} (h : addE a b = 0) : subN (addN a b) b = a ∧ subE (addN a b) b = 0 := by
  unfold addE at h
  cases ha : fits a <;> cases hb : fits b <;> simp [ha, hb] at h
  cases hc : fits (a + b)
  · simp [fitE, hc] at h
  · have e : addN a b = a + b := by simp [addN, fitN, ha, hb, hc]
    have e2 : a + b - b = a := by omega
    rw [e]
    simp [subN, subE, fitN, fitE, hb, hc, e2, ha]

theorem md_back {a b mode : Int} (ha : fits a = true) (hb : fits b = true) (h0 : b ≠ 0) (h1 : 1 ≤ mode) (h5 : mode ≤ 5) : mdN a b b mode = a ∧ mdE a b b mode = 0 := by
  have hA : mdA a b b mode = true := by simp [mdA, ha, hb, h1, h5]
  have sp := size_pos h0
  have hQ : mdQ a b b = (size a).toNat := by unfold mdQ; exact Nat.mul_div_cancel _ (by omega)
  have hR : mdR a b b = 0 := by unfold mdR; exact Nat.mul_mod_left _ _
  have hG : mdG a b b mode = size a := by
    have := size_nonneg a
    unfold mdG; rw [hQ, hR]; simp [grow]; omega
  obtain ⟨a1, a2⟩ := fits_true.1 ha
  have hle := size_le a1 a2
  simp only [mdN, mdE, hA, if_true, h0, if_false, hG, hle]
  refine ⟨?_, trivial⟩
  unfold neg size
  by_cases s1 : a < 0 <;> by_cases s2 : b < 0 <;> simp [s1, s2]

theorem fits_one : fits 1 = true := by decide

/-- the error of one mode says it of all, where even Down fails -/
theorem md_down_err {a b c mode : Int} (h : mdE a b c 1 ≠ 0) (h1 : 1 ≤ mode) (h5 : mode ≤ 5) : mdE a b c mode ≠ 0 := by
  cases hA : mdA a b c 1
  · have hA' : mdA a b c mode = false := by
      unfold mdA at hA ⊢
      simp [h1, h5] at hA ⊢
      exact hA
    simp [mdE, hA']
  · have hA' : mdA a b c mode = true := by
      unfold mdA at hA ⊢
      simp [h1, h5] at hA ⊢
      exact hA
    by_cases hc : c = 0
    · subst hc; simp [mdE, hA']
    · have hd : mdG a b c 1 = mdQ a b c := by unfold mdG; simp [grow]
      have hQ : 1152921504606846976 < (mdQ a b c : Int) := by
        simp [mdE, hA, hc, hd] at h
        omega
      rw [(md_over hA' hc hQ).2]; decide

/-- how the five modes lie, where all answer -/
def Lie (low high down up half : Int) : Prop :=
  ∃ q : Int, (0 ≤ q ∧ q ≤ 1152921504606846976) ∧
    ((low = q ∧ high = q ∧ down = q ∧ up = q ∧ half = q) ∨
     (low = q ∧ high = q + 1 ∧ down = q ∧ up = q + 1 ∧ (half = q ∨ half = q + 1)) ∨
     (low = -q ∧ high = -q ∧ down = -q ∧ up = -q ∧ half = -q) ∨
     (low = -(q + 1) ∧ high = -q ∧ down = -q ∧ up = -(q + 1) ∧ (half = -q ∨ half = -(q + 1))))

theorem md_ok {a b c mode : Int} (h : mdE a b c mode = 0) :
    mdA a b c mode = true ∧ c ≠ 0 ∧ mdG a b c mode ≤ 1152921504606846976 ∧ mdN a b c mode = if neg a b c then -mdG a b c mode else mdG a b c mode := by
  cases hA : mdA a b c mode
  · simp [mdE, hA] at h
  · by_cases hc : c = 0
    · subst hc; simp [mdE, hA] at h
    · by_cases hg : mdG a b c mode ≤ 1152921504606846976
      · exact ⟨rfl, hc, hg, by simp [mdN, hA, hc, hg]⟩
      · simp [mdE, hA, hc, hg] at h

theorem md_lie {a b c : Int} (e1 : mdE a b c 1 = 0) (e2 : mdE a b c 2 = 0) (e3 : mdE a b c 3 = 0) (e4 : mdE a b c 4 = 0) (e5 : mdE a b c 5 = 0) :
    Lie (mdN a b c 3) (mdN a b c 4) (mdN a b c 1) (mdN a b c 2) (mdN a b c 5) := by
  obtain ⟨_, hc, g1, n1⟩ := md_ok e1
  obtain ⟨_, _, g2, n2⟩ := md_ok e2
  obtain ⟨_, _, g3, n3⟩ := md_ok e3
  obtain ⟨_, _, g4, n4⟩ := md_ok e4
  obtain ⟨_, _, g5, n5⟩ := md_ok e5
  have q0 := mdQ_nonneg a b c
  refine ⟨mdQ a b c, ⟨q0, ?_⟩, ?_⟩
  · unfold mdG at g1; split at g1 <;> omega
  rw [n1, n2, n3, n4, n5]
  by_cases hr : (mdR a b c : Int) = 0
  · have hz : ∀ m, mdG a b c m = mdQ a b c := fun m => by unfold mdG grow; simp [hr]
    simp only [hz]
    cases neg a b c <;> simp
  · have z1 : mdG a b c 1 = mdQ a b c := by unfold mdG grow; simp
    have z2 : mdG a b c 2 = mdQ a b c + 1 := by unfold mdG grow; rw [if_neg hr]; simp
    cases hn : neg a b c
    · have z3 : mdG a b c 3 = mdQ a b c := by unfold mdG grow; rw [if_neg hr]; simp [hn]
      have z4 : mdG a b c 4 = mdQ a b c + 1 := by unfold mdG grow; rw [if_neg hr]; simp [hn]
      have z5 : mdG a b c 5 = mdQ a b c ∨ mdG a b c 5 = mdQ a b c + 1 := by unfold mdG; split <;> omega
      rw [z1, z2, z3, z4]
      simp only [Bool.false_eq_true, if_false]
      exact .inr (.inl ⟨trivial, trivial, trivial, trivial, z5⟩)
    · have z3 : mdG a b c 3 = mdQ a b c + 1 := by unfold mdG grow; rw [if_neg hr]; simp [hn]
      have z4 : mdG a b c 4 = mdQ a b c := by unfold mdG grow; rw [if_neg hr]; simp [hn]
      have z5 : mdG a b c 5 = mdQ a b c ∨ mdG a b c 5 = mdQ a b c + 1 := by unfold mdG; split <;> omega
      rw [z1, z2, z3, z4]
      simp only [if_true]
      refine .inr (.inr (.inr ⟨trivial, trivial, trivial, trivial, ?_⟩))
      rcases z5 with z | z <;> rw [z]
      · exact .inl rfl
      · exact .inr rfl
end CM
