/- Layer 17's mathematics: what follows. -/
import Derived.Test.YtaegapcccboinaaTapeMath
namespace TP
set_option linter.unusedVariables false
theorem vw_modes {l : List Tick} {step m m' : Int} (h : 1 ≤ m ∧ m ≤ 5) (h' : 1 ≤ m' ∧ m' ≤ 5) : vwE l step m = vwE l step m' := by
  unfold vwE; rw [QM.within_true.2 h, QM.within_true.2 h']
theorem vw_bad {l : List Tick} {step m : Int} (h : vwE l step m ≠ 0) : vwN l step m = 0 := by unfold vwN; rw [if_neg h]
theorem within {l : List Tick} (h : vwE l 1 3 = 0) : 0 < l.length ∧ lowN l ≤ vwN l 1 3 ∧ vwN l 1 3 ≤ vwN l 1 4 ∧ vwN l 1 4 ≤ highN l ∧ vwN l 1 4 - vwN l 1 3 ≤ 1 ∧ (-33554432 ≤ vwN l 1 3 ∧ vwN l 1 4 ≤ 33554432) := by
  obtain ⟨hg, hs, hm, h0⟩ := vw_zero h
  have h4 : vwE l 1 4 = 0 := by rw [vw_modes (m := 4) (m' := 3) (by omega) (by omega)]; exact h
  have e3 : vwN l 1 3 = vwK l 1 3 := by unfold vwN; rw [if_pos h, Int.mul_one]
  have e4 : vwN l 1 4 = vwK l 1 4 := by unfold vwN; rw [if_pos h4, Int.mul_one]
  have eL : lowN l = lowU l l.length := by unfold lowN; rw [if_neg (by omega)]
  have eH : highN l = highU l l.length := by unfold highN; rw [if_neg (by omega)]
  obtain ⟨j, hj, ej⟩ := lowU_mem h0 l.length (Nat.le_refl _)
  obtain ⟨i, hi, ei⟩ := highU_mem h0 l.length (Nat.le_refl _)
  have bj := (hg.each j hj).2.2
  have bi := (hg.each i hi).2.2
  rw [← ej] at bj
  rw [← ei] at bi
  have hp : ∀ k, k < l.length → lowU l l.length * 1 ≤ (tAt l k).price ∧ (tAt l k).price ≤ highU l l.length * 1 := fun k hk => by
    rw [Int.mul_one, Int.mul_one]; exact ⟨lowU_le _ k hk, le_highU _ k hk⟩
  have w3 := vw_within (mode := 3) hg hs (by omega) (by omega) h0 hp (by omega) (by omega)
  have w4 := vw_within (mode := 4) hg hs (by omega) (by omega) h0 hp (by omega) (by omega)
  obtain ⟨_, _, _, k1, b3, _⟩ := vw_bounds (mode := 3) hg hs (by omega) (by omega) h0
  have k := fun m (hm : 1 ≤ m ∧ m ≤ 5) => (vw_bounds (mode := m) hg hs hm.1 hm.2 h0).2.2.2.1
  have b4 := (vw_bounds (mode := 4) hg hs (by omega) (by omega) h0).2.2.2.2.1
  obtain ⟨q, hq, hl⟩ := CM.md_lie (k 1 (by omega)) (k 2 (by omega)) (k 3 (by omega)) (k 4 (by omega)) (k 5 (by omega))
  have f3 : vwK l 1 3 = CM.mdN (val l) 1 (vol l * 1) 3 := rfl
  have f4 : vwK l 1 4 = CM.mdN (val l) 1 (vol l * 1) 4 := rfl
  rw [← f3, ← f4] at hl
  rw [e3, e4, eL, eH]
  simp only [Int.mul_one] at w3 w4
  refine ⟨h0, w3.1, ?_, w4.2, ?_, ?_⟩ <;> omega
end TP
