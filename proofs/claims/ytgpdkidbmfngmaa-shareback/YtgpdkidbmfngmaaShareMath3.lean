import Derived.Test.YtgpdkidbmfngmaaShareMath2
namespace SM
open LM

/-- Split's error -/
def splE (total : Int) (w : List Int) : Int := if inR total then (if 1024 < w.length then 8 else if wOk w && decide (tot w ≠ 0) then 0 else 26) else 2
/-- .. and its parts -/
def splN (total : Int) (w : List Int) : List Int := if splE total w = 0 then parts total (tot w) w else []

theorem spl_arg {total : Int} {w : List Int} (h : inR total = false) : splE total w = 2 ∧ splN total w = [] := by
  have e : splE total w = 2 := by simp [splE, h]
  simp [splN, e]
theorem spl_long {total : Int} {w : List Int} (h : inR total = true) (hl : 1024 < w.length) : splE total w = 8 ∧ splN total w = [] := by
  have e : splE total w = 8 := by simp [splE, h, hl]
  simp [splN, e]
theorem spl_weight {total : Int} {w : List Int} (h : inR total = true) (hl : ¬ 1024 < w.length) (hw : wOk w = false ∨ tot w = 0) : splE total w = 26 ∧ splN total w = [] := by
  have e : splE total w = 26 := by rcases hw with hw | hw <;> simp [splE, h, hl, hw]
  simp [splN, e]
theorem spl_ok {total : Int} {w : List Int} (h : inR total = true) (hl : ¬ 1024 < w.length) (hw : wOk w = true) (h0 : tot w ≠ 0) : splE total w = 0 ∧ splN total w = parts total (tot w) w := by
  have e : splE total w = 0 := by simp [splE, h, hl, hw, h0]
  simp [splN, e]
theorem wOk_parts {w : List Int} (h : wOk w = true) : allR w = true ∧ tot w ≤ 1152921504606846976 := by simpa [wOk] using h

theorem parts_ref {total : Int} {w : List Int} (hw : wOk w = true) (h0 : tot w ≠ 0) (L : Nat) (hL : leftOf total (tot w) w = L) :
    (diter (-1) L (qs total (tot w) w, rs total (tot w) w)).1 = parts total (tot w) w := by
  obtain ⟨hr, _⟩ := wOk_parts hw
  have hp : 0 < tot w := by have := tot_nonneg hr; omega
  unfold parts
  rw [hL]
  refine (diter_same (all := tot w) (n := w.length) (left := L) (qs_len _ _ _) (rs_len _ _ _) ?_ hp (fun j hj => (rs_range _ _ _ hp j hj).2) L (Nat.le_refl _)).1
  rw [tot_rs _ _ _ rfl, hL]
end SM
