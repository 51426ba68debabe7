/- How long pieces are; fields that are put together. -/
import Derived.Test.YtegipokbbmnahaaFieldMath
namespace WM
set_option linter.unusedVariables false
theorem run_le (b : UInt8) (l : List UInt8) : (∀ p ∈ (run b l).1, p.length ≤ l.length) ∧ (run b l).2.length ≤ l.length := by
  induction l using snoc_ind with
  | h0 => simp [run_nil]
  | h1 l c ih =>
    obtain ⟨h1, h2⟩ := ih
    by_cases h : c = b
    · subst h
      rw [run_snoc_at]
      refine ⟨?_, by simp⟩
      intro p hp
      rw [List.length_append]
      simp only [List.mem_append, List.mem_singleton] at hp
      rcases hp with hp | rfl
      · have := h1 p hp; omega
      · omega
    · rw [run_snoc_in h]
      refine ⟨?_, by simp; omega⟩
      intro p hp
      have := h1 p hp
      rw [List.length_append]; omega
theorem pieces_le {b : UInt8} {l p : List UInt8} (h : p ∈ pieces b l) : p.length ≤ l.length := by
  unfold pieces at h
  simp only [List.mem_append, List.mem_singleton] at h
  rcases h with h | rfl
  · exact (run_le b l).1 p h
  · exact (run_le b l).2
theorem fields_le {l p : List UInt8} (h : p ∈ fieldsN l) : p.length ≤ l.length := by
  unfold fieldsN at h
  split at h
  · exact pieces_le h
  · simp at h
theorem lines_le {l p : List UInt8} (h : p ∈ linesN l) : p.length ≤ l.length := by
  unfold linesN at h
  split at h
  · simp at h
  · split at h
    · exact (run_le 10 l).1 p h
    · exact pieces_le h
theorem tl_le (m : Nat) (ps : List (List UInt8)) (h : ∀ p ∈ ps, p.length ≤ m) : tl 1 (ps.map List.length) ≤ ps.length * (m + 1) := by
  induction ps with
  | nil => simp [tl]
  | cons p ps ih =>
    have e : tl 1 ((p :: ps).map List.length) = p.length + 1 + tl 1 (ps.map List.length) := by simp [tl]
    have h1 := h p (by simp)
    have h2 := ih (fun q hq => h q (by simp [hq]))
    rw [e, List.length_cons, Nat.succ_mul]
    omega
theorem fields_count (l : List UInt8) : (fieldsN l).length ≤ l.length + 1 := by
  unfold fieldsN
  split
  · unfold pieces
    have := run_len 32 l
    rw [List.length_append]; simp; omega
  · simp
theorem fields_short {l : List UInt8} (h : fieldsE l = 0) : l.length ≤ 512 := by
  unfold fieldsE at h
  split at h
  · omega
  · omega
theorem fields_tl {l : List UInt8} (h : fieldsE l = 0) : tl 1 ((fieldsN l).map List.length) ≤ 263169 := by
  have h1 := fields_short h
  have h2 := tl_le 512 (fieldsN l) (fun p hp => by have := fields_le hp; omega)
  have h3 := fields_count l
  have h4 : (fieldsN l).length * (512 + 1) ≤ 513 * 513 := Nat.mul_le_mul (by omega) (by omega)
  omega
theorem sign_range (v : Int) (b : Bool) (h : 0 ≤ v) : -1152921504606846976 ≤ signN v b ∧ signN v b ≤ 1152921504606846976 := by
  unfold signN most
  split
  · omega
  · split
    · omega
    · split <;> omega
theorem int_range (l : List UInt8) : -1152921504606846976 ≤ intN l ∧ intN l ≤ 1152921504606846976 := by
  unfold intN
  split
  · rename_i h; exact sign_range _ _ (val_nonneg (digits_all h))
  · omega
theorem cents_range (l : List UInt8) : -1152921504606846976 ≤ centsN l ∧ centsN l ≤ 1152921504606846976 := by
  unfold centsN
  split
  · rename_i h; exact sign_range _ _ (money_of h).1
  · omega
theorem text_len (n : Int) (h : n.natAbs < 18446744073709551616) : 1 ≤ (textL n).length := by
  unfold textL
  have := dec_length n.natAbs
  split <;> simp <;> omega
end WM
