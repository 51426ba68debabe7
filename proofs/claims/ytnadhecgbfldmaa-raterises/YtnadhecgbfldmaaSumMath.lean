import Derived.Test.YtnadhecgbfldmaaCentsMath
import Derived.Test.YtnadhecgbfldmaaListMath
namespace CM
open LM

/-- all fit -/
def allFit (l : List Int) : Bool := l.all fits
def sumN (l : List Int) : Int := if allFit l then fitN (tot l) else 0
def sumE (l : List Int) : Int := if allFit l then fitE (tot l) else 2

theorem allFit_snoc (l : List Int) (x : Int) : allFit (l ++ [x]) = (allFit l && fits x) := by simp [allFit]
theorem allFit_take_succ (l : List Int) (k : Nat) (h : k < l.length) : allFit (l.take (k + 1)) = (allFit (l.take k) && fits (l.getD k 0)) := by
  rw [take_snoc l k h, allFit_snoc]
theorem allFit_reverse (l : List Int) : allFit l.reverse = allFit l := by simp [allFit]
theorem sumN_reverse (l : List Int) : sumN l.reverse = sumN l := by simp [sumN, allFit_reverse, tot_reverse]
theorem sumE_reverse (l : List Int) : sumE l.reverse = sumE l := by simp [sumE, allFit_reverse, tot_reverse]

theorem allFit_no {l : List Int} {k : Nat} (hk : k < l.length) (h : fits (l.getD k 0) = false) : sumN l = 0 ∧ sumE l = 2 := by
  have : allFit l = false := by
    cases hc : allFit l
    · rfl
    · have := (List.all_eq_true.1 hc) _ (getD_mem l k hk)
      rw [h] at this; exact absurd this (by simp)
  simp [sumN, sumE, this]

theorem sum_yes {l : List Int} (h : allFit l = true) : sumN l = fitN (tot l) ∧ sumE l = fitE (tot l) := by simp [sumN, sumE, h]

/-- what the program's Sum holds after k rounds -/
def SInv (l : List Int) (k : Nat) (full part : Int) : Prop :=
  allFit (l.take k) = true ∧ full * 1152921504606846976 + part = tot (l.take k) ∧ -1152921504606846976 < part ∧ part < 1152921504606846976 ∧ -(k : Int) ≤ full ∧ full ≤ k

theorem SInv.start (l : List Int) : SInv l 0 0 0 := ⟨rfl, rfl, by omega, by omega, by omega, by omega⟩

theorem SInv.bounds {l : List Int} {k : Nat} {full part : Int} (h : SInv l k full part) : -1152921504606846976 < part ∧ part < 1152921504606846976 ∧ -(k : Int) ≤ full ∧ full ≤ k := h.2.2

theorem SInv.step {l : List Int} {k : Nat} {full part f' p' : Int} (h : SInv l k full part) (hk : k < l.length) (hf : fits (l.getD k 0) = true)
    (he : f' * 1152921504606846976 + p' = full * 1152921504606846976 + part + l.getD k 0) (h1 : -1152921504606846976 < p') (h2 : p' < 1152921504606846976)
    (h3 : full - 1 ≤ f') (h4 : f' ≤ full + 1) : SInv l (k + 1) f' p' := by
  obtain ⟨a1, a2, a3, a4, a5, a6⟩ := h
  refine ⟨by rw [allFit_take_succ l k hk, a1, hf]; rfl, by rw [tot_take_succ l k hk, ← a2]; exact he, h1, h2, by omega, by omega⟩

theorem SInv.done {l : List Int} {full part : Int} (h : SInv l l.length full part) :
    (full > 1 ∨ full < -1 → sumN l = 0 ∧ sumE l = 3) ∧ (sumN l = fitN (full * 1152921504606846976 + part) ∧ sumE l = fitE (full * 1152921504606846976 + part)) := by
  obtain ⟨a1, a2, a3, a4, a5, a6⟩ := h
  rw [List.take_length] at a1 a2
  obtain ⟨s1, s2⟩ := sum_yes a1
  rw [s1, s2, a2]
  refine ⟨fun hf => ?_, rfl, rfl⟩
  have : fits (tot l) = false := by rw [fits_false, ← a2]; omega
  simp [fitN, fitE, this]
end CM
