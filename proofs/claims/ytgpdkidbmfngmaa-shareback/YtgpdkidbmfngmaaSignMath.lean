import Derived.Test.YtgpdkidbmfngmaaFillMath
namespace SM
open LM
/-- Signed -/
def sgnE (total : Int) (w : List Int) : Int := if 0 ≤ total then splE total w else if total < -1152921504606846976 then 2 else splE (-total) w
def sgnN (total : Int) (w : List Int) : List Int := if 0 ≤ total then splN total w else if total < -1152921504606846976 then [] else (splN (-total) w).map fun x => -x

/-- the first k turned round -/
def negK (l : List Int) (k : Nat) : List Int := (l.take k).map (fun x => -x) ++ l.drop k
theorem negK_len (l : List Int) (k : Nat) : (negK l k).length = l.length := by simp [negK]; omega
theorem negK_zero (l : List Int) : negK l 0 = l := by simp [negK]
theorem negK_full (l : List Int) : negK l l.length = l.map fun x => -x := by simp [negK]
theorem negK_get (l : List Int) (k : Nat) (hk : k < l.length) : (negK l k).getD k 0 = l.getD k 0 := by
  unfold negK
  simp only [List.getD]
  rw [List.getElem?_append_right (by simp; omega)]
  simp [Nat.min_eq_left (show k ≤ l.length by omega)]
theorem negK_set (l : List Int) (k : Nat) (hk : k < l.length) : (negK l k).set k (-(l.getD k 0)) = negK l (k + 1) := by
  unfold negK
  rw [take_snoc l k hk, List.map_append, List.set_append_right _ _ (by simp; omega)]
  have e : k - ((l.take k).map fun x => -x).length = 0 := by simp [Nat.min_eq_left (show k ≤ l.length by omega)]
  rw [e, List.drop_eq_getElem_cons hk, List.set_cons_zero, List.map_cons, List.map_nil, List.append_assoc]
  rfl

theorem splN_range (total : Int) (w : List Int) : ∀ n ∈ splN total w, 0 ≤ n ∧ n ≤ 1152921504606848000 := by
  intro n hn
  unfold splN at hn
  split at hn
  · rename_i h
    unfold splE at h
    split at h
    · rename_i h1
      split at h
      · omega
      · rename_i h2
        split at h
        · rename_i h3
          simp at h3
          obtain ⟨hw, h0⟩ := h3
          obtain ⟨hr, ht⟩ := wOk_parts hw
          have hp : 0 < tot w := by have := tot_nonneg hr; omega
          obtain ⟨t0, t1⟩ := inR_true.1 h1
          obtain ⟨k, hk, rfl⟩ := List.getElem_of_mem hn
          have hk' : k < w.length := by rw [parts_len] at hk; exact hk
          rw [← getD_at _ _ hk]
          unfold parts
          obtain ⟨b1, b2⟩ := diter_bound 0 (leftOf total (tot w) w).toNat (qs total (tot w) w, rs total (tot w) w) (by simp only [qs_len, rs_len]) k
          have q0 := qs_nonneg t0 hr hp k hk'
          have q1 : (qs total (tot w) w).getD k 0 ≤ total := by rw [qs_get _ _ _ _ hk']; exact pq_le t0 (elem_le hr hk') hp
          obtain ⟨f0, f1⟩ := left_range total (tot w) w rfl hp
          simp only [] at b1 b2
          omega
        · omega
    · omega
  · simp at hn
theorem splN_len (total : Int) (w : List Int) : (splN total w).length ≤ w.length := by
  unfold splN; split
  · rw [parts_len]; exact Nat.le_refl _
  · simp
theorem splN_err {total : Int} {w : List Int} (h : splE total w ≠ 0) : splN total w = [] := by simp [splN, h]
end SM
