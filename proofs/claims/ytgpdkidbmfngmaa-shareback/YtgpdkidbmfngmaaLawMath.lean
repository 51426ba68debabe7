/- Plain mathematics of the laws of layer 2. -/
import Derived.Test.YtgpdkidbmfngmaaCapMath3
namespace SM
open LM

theorem pq_mono {total x y all : Int} (t0 : 0 ≤ total) (h : x ≤ y) (ha : 0 < all) : pq total x all ≤ pq total y all := Int.ediv_le_ediv ha (Int.mul_le_mul_of_nonneg_left h t0)

/-- how two parts lie: the one of the greater weight is not less -/
theorem pair_lt {total : Int} {w : List Int} (hw : wOk w = true) (h0 : tot w ≠ 0) (t0 : 0 ≤ total) (i k : Nat) (hi : i < w.length) (hk : k < w.length) (h : w.getD k 0 < w.getD i 0) :
    (parts total (tot w) w).getD k 0 ≤ (parts total (tot w) w).getD i 0 := by
  obtain ⟨P, p1, p2, p3, _⟩ := parts_spec hw h0 t0
  obtain ⟨hr, _⟩ := wOk_parts hw
  have hp : 0 < tot w := by have := tot_nonneg hr; omega
  rw [p1 k hk, p1 i hi]
  have hm := pq_mono (total := total) t0 (Int.le_of_lt h) hp
  have e1 := pqr total (w.getD k 0) (tot w)
  have e2 := pqr total (w.getD i 0) (tot w)
  by_cases hq : pq total (w.getD k 0) (tot w) < pq total (w.getD i 0) (tot w)
  · split <;> split <;> omega
  · have eq : pq total (w.getD k 0) (tot w) = pq total (w.getD i 0) (tot w) := by omega
    have hd : pr total (w.getD k 0) (tot w) ≤ pr total (w.getD i 0) (tot w) := by
      have : total * w.getD k 0 ≤ total * w.getD i 0 := Int.mul_le_mul_of_nonneg_left (Int.le_of_lt h) t0
      rw [eq] at e1
      omega
    cases hPk : P k
    · simp only [Bool.false_eq_true, if_false]; split <;> omega
    · cases hPi : P i
      · rcases p3 k i hk hi hPk hPi with h1 | ⟨h1, _⟩
        · omega
        · have hpk := p2 k hk hPk
          rw [eq] at e1
          have e3 : total * w.getD k 0 = total * w.getD i 0 := by omega
          have hz : total = 0 := by
            rcases Int.lt_or_eq_of_le t0 with hlt | he
            · have := Int.eq_of_mul_eq_mul_left (by omega) e3; omega
            · exact he.symm
          rw [hz] at hpk
          simp [pr] at hpk
      · simp only [if_true]; omega
theorem pair_eq {total : Int} {w : List Int} (hw : wOk w = true) (h0 : tot w ≠ 0) (t0 : 0 ≤ total) (i k : Nat) (hi : i < w.length) (hki : k < i) (h : w.getD k 0 = w.getD i 0) :
    (parts total (tot w) w).getD i 0 ≤ (parts total (tot w) w).getD k 0 ∧ (parts total (tot w) w).getD k 0 ≤ (parts total (tot w) w).getD i 0 + 1 := by
  obtain ⟨P, p1, p2, p3, _⟩ := parts_spec hw h0 t0
  have hk : k < w.length := by omega
  rw [p1 k hk, p1 i hi, h]
  cases hPk : P k
  · cases hPi : P i
    · simp only [Bool.false_eq_true, if_false]; omega
    · rcases p3 i k hi hk hPi hPk with h1 | ⟨_, h1⟩
      · rw [h] at h1; omega
      · omega
  · cases hPi : P i <;> simp only [Bool.false_eq_true, if_false, if_true] <;> omega
theorem part_share {total : Int} {w : List Int} (hw : wOk w = true) (h0 : tot w ≠ 0) (t0 : 0 ≤ total) (i : Nat) (hi : i < w.length) :
    (parts total (tot w) w).getD i 0 = pq total (w.getD i 0) (tot w) ∨ ((parts total (tot w) w).getD i 0 = pq total (w.getD i 0) (tot w) + 1 ∧ 0 < pr total (w.getD i 0) (tot w)) := by
  obtain ⟨P, p1, p2, _⟩ := parts_spec hw h0 t0
  rw [p1 i hi]
  cases hP : P i
  · simp
  · exact .inr ⟨by simp, p2 i hi hP⟩
theorem parts_allR {total : Int} {w : List Int} (hw : wOk w = true) (h0 : tot w ≠ 0) (t0 : 0 ≤ total) (t1 : total ≤ 1152921504606846976) : allR (parts total (tot w) w) = true := by
  refine List.all_eq_true.2 fun n hn => ?_
  obtain ⟨k, hk, rfl⟩ := List.getElem_of_mem hn
  have hk' : k < w.length := by rwa [parts_len] at hk
  rw [← getD_at _ _ hk]
  have a := parts_nonneg hw h0 t0 k hk'
  have b := parts_le hw h0 t0 k hk'
  exact inR_true.2 ⟨a, by omega⟩
theorem splE_ok {total : Int} {w : List Int} (h : splE total w = 0) : inR total = true ∧ wOk w = true ∧ tot w ≠ 0 ∧ w.length ≤ 1024 := by
  unfold splE at h
  split at h
  · rename_i h1
    split at h
    · omega
    · split at h
      · rename_i h2 h3
        simp at h3
        exact ⟨h1, h3.1, h3.2, by omega⟩
      · omega
  · omega

/-! Fill and Back -/
theorem rk_min {l : List Int} {n : Int} (hl : allR l = true) (n0 : 0 ≤ n) (k : Nat) (hk : k ≤ l.length) : rk l n k = n - min n (tot (l.take k)) := by
  induction k with
  | zero => simp [rk, tot]; omega
  | succ k ih =>
    have e := ih (by omega)
    have c := (allR_get hl (show k < l.length by omega)).1
    have t := tot_nonneg (allR_take hl k)
    rw [tot_take_succ l k (by omega)]
    simp only [rk, e]
    omega
theorem fl_all {l : List Int} (hl : allR l = true) : fl l (tot l) = l ∧ rk l (tot l) l.length = 0 := by
  constructor
  · unfold fl
    conv => rhs; rw [← tab_self l]
    unfold tab
    refine List.map_congr_left fun k hk => ?_
    have hk' := List.mem_range.1 hk
    rw [rk_min hl (tot_nonneg hl) k (by omega)]
    have a := tot_take_le hl (k + 1)
    rw [tot_take_succ l k hk'] at a
    have b := tot_nonneg (allR_take hl k)
    omega
  · rw [rk_min hl (tot_nonneg hl) _ (Nat.le_refl _), List.take_length]; omega
theorem bk_all {l : List Int} (hl : allR l = true) : bk l (tot l) = l ∧ rk l.reverse (tot l) l.length = 0 := by
  have h := fl_all (l := l.reverse) (by rw [allR_reverse]; exact hl)
  rw [tot_reverse, List.length_reverse] at h
  unfold bk
  exact ⟨by rw [h.1, List.reverse_reverse], h.2⟩
theorem bk_rest {l : List Int} {n : Int} (hl : allR l = true) (n0 : 0 ≤ n) : rk l.reverse n l.length = n - min n (tot l) := by
  have h := rk_min (l := l.reverse) (by rw [allR_reverse]; exact hl) n0 l.length (by simp)
  rw [h]
  have : l.reverse.take l.length = l.reverse := List.take_of_length_le (by simp)
  rw [this, tot_reverse]
theorem bk_tot {l : List Int} {n : Int} : tot (bk l n) = n - rk l.reverse n l.length := by
  unfold bk
  rw [tot_reverse]
  have h := rk_sum l.reverse n l.reverse.length (Nat.le_refl _)
  rw [List.take_of_length_le (by rw [fl_len]; exact Nat.le_refl _), List.length_reverse] at h
  omega
theorem fl_tot {l : List Int} {n : Int} : tot (fl l n) = n - rk l n l.length := by
  have h := rk_sum l n l.length (Nat.le_refl _)
  rw [List.take_of_length_le (by rw [fl_len]; exact Nat.le_refl _)] at h
  omega
theorem bk_allR {l : List Int} {n : Int} (hl : allR l = true) (n0 : 0 ≤ n) (n1 : n ≤ 1152921504606846976) : allR (bk l n) = true := by
  refine List.all_eq_true.2 fun x hx => ?_
  have hx' : x ∈ fl l.reverse n := by unfold bk at hx; exact List.mem_reverse.1 hx
  obtain ⟨k, hk, rfl⟩ := List.getElem_of_mem hx'
  have hk' : k < l.reverse.length := by rwa [fl_len] at hk
  rw [← getD_at _ _ hk, fl_get _ _ _ hk']
  have hlr : allR l.reverse = true := by rw [allR_reverse]; exact hl
  obtain ⟨a, b⟩ := rk_range hlr n0 k (by omega)
  obtain ⟨c, d⟩ := allR_get hlr hk'
  exact inR_true.2 (by omega)
end SM
