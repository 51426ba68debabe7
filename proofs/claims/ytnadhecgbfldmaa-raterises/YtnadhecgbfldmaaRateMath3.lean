/- Layer 8's mathematics: the converted amounts as they are laid down one by one. -/
import Derived.Test.YtnadhecgbfldmaaRateMath2
namespace RM
theorem md_range (a b c mode : Int) : -1152921504606846976 ≤ CM.mdN a b c mode ∧ CM.mdN a b c mode ≤ 1152921504606846976 := by
  by_cases he : CM.mdE a b c mode = 0
  · obtain ⟨_, _, hg, h⟩ := CM.md_ok he
    have := CM.g_nonneg a b c mode
    rw [h]
    split <;> omega
  · have : CM.mdN a b c mode = 0 := by
      unfold CM.mdN
      unfold CM.mdE at he
      split at he
      · rename_i h1
        split at he
        · rename_i h2; simp [h2]
        · rename_i h2
          split at he
          · exact absurd rfl he
          · rename_i h3; simp [h1, h2, h3]
      · rename_i h1; simp [h1]
    omega
theorem cv_range (l : List Rate) (n a b mode : Int) : -1152921504606846976 ≤ cvN l n a b mode ∧ cvN l n a b mode ≤ 1152921504606846976 := by
  unfold cvN
  split
  · exact md_range _ _ _ _
  · omega
theorem conv_range (l : List Rate) (n : List Int) (mode : Int) (k : Nat) : ∀ x ∈ conv l n mode k, -9223372036854775808 ≤ x ∧ x ≤ 9223372036854775807 := by
  intro x hx
  obtain ⟨j, _, rfl⟩ := List.mem_map.1 hx
  have := cv_range l (n.getD j 0) j 0 mode
  show _ ≤ cvN l (n.getD j 0) j 0 mode ∧ cvN l (n.getD j 0) j 0 mode ≤ _
  omega
def pre (l : List Rate) (n : List Int) (mode : Int) (k : Nat) : List Int := conv l n mode k ++ List.replicate (n.length - k) 0
theorem pre_zero (l : List Rate) (n : List Int) (mode : Int) : pre l n mode 0 = List.replicate n.length 0 := by simp [pre, conv]
theorem pre_len {l : List Rate} {n : List Int} {mode : Int} {k : Nat} (h : k ≤ n.length) : (pre l n mode k).length = n.length := by simp [pre, conv_len]; omega
theorem pre_all (l : List Rate) (n : List Int) (mode : Int) : pre l n mode n.length = conv l n mode n.length := by simp [pre]
theorem pre_set {l : List Rate} {n : List Int} {mode : Int} {k : Nat} (h : k < n.length) : (pre l n mode k).set k (bN l n mode k) = pre l n mode (k + 1) := by
  unfold pre
  rw [conv_succ]
  obtain ⟨d, hd⟩ : ∃ d, n.length - k = d + 1 := ⟨n.length - k - 1, by omega⟩
  rw [hd, show n.length - (k + 1) = d by omega, List.replicate_succ]
  rw [List.set_append_right _ _ (by rw [conv_len]; exact Nat.le_refl _), conv_len, Nat.sub_self]
  simp
end RM
