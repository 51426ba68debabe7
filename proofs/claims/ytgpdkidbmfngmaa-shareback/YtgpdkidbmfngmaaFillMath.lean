/- Plain mathematics of Fill and Back. -/
import Derived.Test.YtgpdkidbmfngmaaShareMath3
namespace SM
open LM

/-- what is left ahead of element k -/
def rk (caps : List Int) (total : Int) : Nat → Int
  | 0 => total
  | k + 1 => rk caps total k - min (caps.getD k 0) (rk caps total k)
/-- what each gets -/
def fl (caps : List Int) (total : Int) : List Int := (List.range caps.length).map fun k => min (caps.getD k 0) (rk caps total k)

theorem fl_len (caps : List Int) (total : Int) : (fl caps total).length = caps.length := by simp [fl]
theorem fl_get (caps : List Int) (total : Int) (k : Nat) (hk : k < caps.length) : (fl caps total).getD k 0 = min (caps.getD k 0) (rk caps total k) := by
  simp [fl, List.getD, hk]
theorem rk_range {caps : List Int} {total : Int} (hc : allR caps = true) (h0 : 0 ≤ total) (k : Nat) (hk : k ≤ caps.length) : 0 ≤ rk caps total k ∧ rk caps total k ≤ total := by
  induction k with
  | zero => exact ⟨h0, Int.le_refl _⟩
  | succ k ih =>
    obtain ⟨a, b⟩ := ih (by omega)
    have c := allR_get hc (show k < caps.length by omega)
    simp only [rk]
    omega
theorem rk_sum (caps : List Int) (total : Int) (k : Nat) (hk : k ≤ caps.length) : rk caps total k = total - tot ((fl caps total).take k) := by
  induction k with
  | zero => simp [rk, tot]
  | succ k ih =>
    rw [tot_take_succ _ _ (by rw [fl_len]; omega), fl_get _ _ _ (by omega)]
    have := ih (by omega)
    simp only [rk]; omega

theorem min_ite (x r : Int) : min x r = if r < x then r else x := by split <;> omega
theorem min_ite' (x r : Int) : min x r = if x < r then x else r := by split <;> omega
theorem min_cases (a b : Int) : (a ≤ b ∧ min a b = a) ∨ (b ≤ a ∧ min a b = b) := by omega

/-- the last k of a list behind noughts -/
def suf (l : List Int) (k : Nat) : List Int := List.replicate (l.length - k) 0 ++ l.drop (l.length - k)
theorem suf_len (l : List Int) (k : Nat) : (suf l k).length = l.length := by simp [suf]
theorem suf_zero (l : List Int) : suf l 0 = List.replicate l.length 0 := by simp [suf]
theorem suf_full (l : List Int) : suf l l.length = l := by simp [suf]
theorem suf_set (l : List Int) (k : Nat) (hk : k < l.length) : (suf l k).set (l.length - (k + 1)) (l.getD (l.length - (k + 1)) 0) = suf l (k + 1) := by
  unfold suf
  have h : l.length - (k + 1) < l.length := by omega
  have e : l.length - k = (l.length - (k + 1)) + 1 := by omega
  have e2 : l.drop (l.length - (k + 1)) = l.getD (l.length - (k + 1)) 0 :: l.drop (l.length - k) := by
    rw [List.drop_eq_getElem_cons h, getD_at _ _ h, e]
  rw [e2, e, List.replicate_succ', List.append_assoc, List.set_append_right _ _ (by simp)]
  simp

/-- what comes back, from the end on -/
def bk (paid : List Int) (total : Int) : List Int := (fl paid.reverse total).reverse
theorem bk_len (paid : List Int) (total : Int) : (bk paid total).length = paid.length := by simp [bk, fl_len]
theorem rev_get (l : List Int) (k : Nat) (hk : k < l.length) : l.reverse.getD k 0 = l.getD (l.length - (k + 1)) 0 := by
  have h : l.length - (k + 1) < l.length := by omega
  rw [getD_at _ _ (by simpa using hk), getD_at _ _ h, List.getElem_reverse]
  congr 1
  omega
theorem bk_get (paid : List Int) (total : Int) (k : Nat) (hk : k < paid.length) :
    (bk paid total).getD (paid.length - (k + 1)) 0 = min (paid.getD (paid.length - (k + 1)) 0) (rk paid.reverse total k) := by
  have h1 := rev_get (bk paid total) k (by rw [bk_len]; exact hk)
  rw [bk_len] at h1
  rw [← h1]
  unfold bk
  rw [List.reverse_reverse, fl_get _ _ _ (by simpa using hk), rev_get _ _ hk]

/-- the error of Fill and Back -/
def rowE (total : Int) (l : List Int) : Int := if inR total && allR l then (if 1024 < l.length then 8 else 0) else 2
def fillN (total : Int) (l : List Int) : List Int := if rowE total l = 0 then fl l total else []
def fillR (total : Int) (l : List Int) : Int := if rowE total l = 0 then rk l total l.length else 0
def backN (total : Int) (l : List Int) : List Int := if rowE total l = 0 then bk l total else []
def backR (total : Int) (l : List Int) : Int := if rowE total l = 0 then rk l.reverse total l.length else 0

theorem rowE_ok {total : Int} {l : List Int} (h : rowE total l = 0) : inR total = true ∧ allR l = true ∧ l.length ≤ 1024 := by
  unfold rowE at h
  split at h
  · rename_i h1
    simp at h1
    split at h
    · omega
    · exact ⟨h1.1, h1.2, by omega⟩
  · omega
theorem allR_reverse (l : List Int) : allR l.reverse = allR l := by simp [allR]
theorem rowE_reverse (total : Int) (l : List Int) : rowE total l.reverse = rowE total l := by simp [rowE, allR_reverse]
theorem fill_no {total : Int} {l : List Int} (h : rowE total l ≠ 0) : fillN total l = [] ∧ fillR total l = 0 ∧ backN total l = [] ∧ backR total l = 0 := by simp [fillN, fillR, backN, backR, h]
theorem fill_yes {total : Int} {l : List Int} (h : rowE total l = 0) : fillN total l = fl l total ∧ fillR total l = rk l total l.length ∧ backN total l = bk l total ∧ backR total l = rk l.reverse total l.length := by simp [fillN, fillR, backN, backR, h]
theorem fill_reverse (total : Int) (l : List Int) : (fillN total l.reverse).reverse = backN total l ∧ fillR total l.reverse = backR total l := by
  unfold fillN fillR backN backR
  rw [rowE_reverse]
  by_cases h : rowE total l = 0
  · simp [h, bk]
  · simp [h]
end SM
