import Derived.Test.YtagmknahmkniaaaCentsDiv
namespace CM
theorem ref_bounds (a b : Int) {c : Int} (hc : c ≠ 0) :
    0 ≤ rq (size a).toNat (size b).toNat (size c).toNat ∧ rq (size a).toNat (size b).toNat (size c).toNat ≤ 2305843009213693952 ∧
    0 ≤ rr (size a).toNat (size b).toNat (size c).toNat ∧ rr (size a).toNat (size b).toNat (size c).toNat < size c := by
  have h := mdR_lt a b hc
  unfold mdR at h
  unfold rq rr
  refine ⟨by split; exact Int.natCast_nonneg _; omega, by split <;> omega, Int.natCast_nonneg _, h⟩

theorem md_ref {a b c mode : Int} (hA : mdA a b c mode = true) (hc : c ≠ 0) :
    (1152921504606846976 < rq (size a).toNat (size b).toNat (size c).toNat + (if grow (rq (size a).toNat (size b).toNat (size c).toNat) (rr (size a).toNat (size b).toNat (size c).toNat) (size c) mode (neg a b c) then 1 else 0) →
      mdN a b c mode = 0 ∧ mdE a b c mode = 3) ∧
    (rq (size a).toNat (size b).toNat (size c).toNat + (if grow (rq (size a).toNat (size b).toNat (size c).toNat) (rr (size a).toNat (size b).toNat (size c).toNat) (size c) mode (neg a b c) then 1 else 0) ≤ 1152921504606846976 →
      mdN a b c mode = (if neg a b c then -(rq (size a).toNat (size b).toNat (size c).toNat + (if grow (rq (size a).toNat (size b).toNat (size c).toNat) (rr (size a).toNat (size b).toNat (size c).toNat) (size c) mode (neg a b c) then 1 else 0))
        else rq (size a).toNat (size b).toNat (size c).toNat + (if grow (rq (size a).toNat (size b).toNat (size c).toNat) (rr (size a).toNat (size b).toNat (size c).toNat) (size c) mode (neg a b c) then 1 else 0)) ∧ mdE a b c mode = 0) := by
  by_cases hQ : (size a).toNat * (size b).toNat / (size c).toNat ≤ 2305843009213693952
  · have e1 : rq (size a).toNat (size b).toNat (size c).toNat = mdQ a b c := by unfold rq mdQ; rw [if_pos hQ]
    have e2 : rr (size a).toNat (size b).toNat (size c).toNat = mdR a b c := rfl
    rw [e1, e2]
    have e3 : (mdQ a b c : Int) + (if grow (mdQ a b c) (mdR a b c) (size c) mode (neg a b c) then 1 else 0) = mdG a b c mode := rfl
    rw [e3]
    constructor
    · intro hlt
      have hn : ¬ mdG a b c mode ≤ 1152921504606846976 := by omega
      simp [mdN, mdE, hA, hc, hn]
    · intro hle
      simp [mdN, mdE, hA, hc, hle]
  · have e1 : rq (size a).toNat (size b).toNat (size c).toNat = 2305843009213693952 := by unfold rq; rw [if_neg hQ]
    rw [e1]
    have hQ2 : 1152921504606846976 < (mdQ a b c : Int) := by unfold mdQ; omega
    constructor
    · intro _
      exact md_over hA hc hQ2
    · intro hle
      split at hle <;> omega
end CM
