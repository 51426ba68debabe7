/- A date's form, byte by byte. -/
import Derived.Test.YthahfcehfagepaaDateMath3
import Derived.Test.YthahfcehfagepaaDateMath4
namespace DM
set_option linter.unusedVariables false

def okAt (i : Nat) (c : UInt8) : Bool := if i = 4 ∨ i = 7 then c == 45 else decide (isD c)
def okUpTo (s : List UInt8) (k : Nat) : Prop := ∀ i, i < k → okAt i (s.getD i 0) = true
def formB (s : List UInt8) : Bool := decide (s.length = 10) && (List.range 10).all (fun i => okAt i (s.getD i 0))
theorem ten {α : Type} (s : List α) (h : s.length = 10) : ∃ a b c d e f g h i j, s = [a, b, c, d, e, f, g, h, i, j] := by
  match s, h with
  | [a, b, c, d, e, f, g, h, i, j], _ => exact ⟨a, b, c, d, e, f, g, h, i, j, rfl⟩
theorem formB_true {s : List UInt8} : formB s = true ↔ form s := by
  unfold formB
  simp only [Bool.and_eq_true, decide_eq_true_eq, List.all_eq_true, List.mem_range]
  constructor
  · rintro ⟨h, h2⟩
    obtain ⟨a, b, c, d, e, f, g, h, i, j, rfl⟩ := ten s h
    have k0 := h2 0 (by omega); have k1 := h2 1 (by omega); have k2 := h2 2 (by omega); have k3 := h2 3 (by omega); have k4 := h2 4 (by omega)
    have k5 := h2 5 (by omega); have k6 := h2 6 (by omega); have k7 := h2 7 (by omega); have k8 := h2 8 (by omega); have k9 := h2 9 (by omega)
    simp [okAt] at k0 k1 k2 k3 k4 k5 k6 k7 k8 k9
    subst k4 k7
    exact ⟨a, b, c, d, f, g, i, j, rfl, k0, k1, k2, k3, k5, k6, k8, k9⟩
  · rintro ⟨a, b, c, d, e, f, g, h, rfl, k0, k1, k2, k3, k5, k6, k8, k9⟩
    refine ⟨rfl, ?_⟩
    intro i hi
    have : i = 0 ∨ i = 1 ∨ i = 2 ∨ i = 3 ∨ i = 4 ∨ i = 5 ∨ i = 6 ∨ i = 7 ∨ i = 8 ∨ i = 9 := by omega
    rcases this with rfl | rfl | rfl | rfl | rfl | rfl | rfl | rfl | rfl | rfl <;> simp [okAt, k0, k1, k2, k3, k5, k6, k8, k9]
theorem formB_false {s : List UInt8} : formB s = false ↔ ¬ form s := by rw [← formB_true]; simp
theorem formB_len {s : List UInt8} (h : s.length ≠ 10) : formB s = false := by unfold formB; simp [h]
theorem formB_no {s : List UInt8} {k : Nat} (hk : k < 10) (h : okAt k (s.getD k 0) = false) : formB s = false := by
  cases e : formB s with
  | false => rfl
  | true =>
    unfold formB at e
    simp only [Bool.and_eq_true, decide_eq_true_eq, List.all_eq_true, List.mem_range] at e
    rw [e.2 k hk] at h; cases h
theorem formB_all {s : List UInt8} (hl : s.length = 10) (h : okUpTo s 10) : formB s = true := by
  unfold formB
  simp only [Bool.and_eq_true, decide_eq_true_eq, List.all_eq_true, List.mem_range]
  exact ⟨hl, fun i hi => h i hi⟩
theorem okUpTo_succ {s : List UInt8} {k : Nat} (h : okUpTo s k) (hk : okAt k (s.getD k 0) = true) : okUpTo s (k + 1) := by
  intro i hi
  rcases Nat.lt_or_ge i k with g | g
  · exact h i g
  · rw [show i = k by omega]; exact hk
def parE (s : List UInt8) : Int := if formB s = true then ofE (yearOf s) (monthOf s) (dayIn s) else 5
def parN (s : List UInt8) : Int := if formB s = true then ofN (yearOf s) (monthOf s) (dayIn s) else 0
/-- what is read is the day whose text it is -/
theorem par_back {s : List UInt8} (h : parE s = 0) : isDate (parN s) (yearOf s) (monthOf s) (dayIn s) ∧ dateL (yearOf s) (monthOf s) (dayIn s) = s := by
  unfold parE at h
  cases hf : formB s with
  | false => rw [hf] at h; simp at h
  | true =>
    rw [hf] at h
    simp only [if_true] at h
    have hok : okDate (yearOf s) (monthOf s) (dayIn s) := by
      unfold ofE at h; split at h
      · assumption
      · omega
    refine ⟨⟨hok, ?_⟩, (form_read (formB_true.1 hf)).1⟩
    unfold parN
    rw [hf]
    simp only [if_true]
    unfold ofN; rw [if_pos hok]
/-- a day's text is read as that day -/
theorem par_text {day y m d : Int} (h : isDate day y m d) : parN (dateL y m d) = day ∧ parE (dateL y m d) = 0 := by
  obtain ⟨h1, e⟩ := h
  have r := (dim_range y m).2
  obtain ⟨p1, p2, p3, p4, p5, p6⟩ := h1
  obtain ⟨a, b, c⟩ := dateL_read (y := y) (m := m) (d := d) (by omega) (by omega) (by omega)
  unfold parN parE
  rw [formB_true.2 (dateL_form y m d), if_pos rfl, if_pos rfl, a, b, c]
  unfold ofN ofE
  rw [if_pos ⟨p1, p2, p3, p4, p5, p6⟩, if_pos ⟨p1, p2, p3, p4, p5, p6⟩]
  exact ⟨e, rfl⟩
end DM
