/- Layer 7's mathematics: phases, acts, names. -/
import Derived.Below
namespace PM
def right (p : Int) : Bool := decide (1 ≤ p) && decide (p ≤ 6)
def nextN (p : Int) : Int := if right p then (if p = 6 then 1 else p + 1) else 0
def nextE (p : Int) : Int := if right p then 0 else 14
def ahead (a b : Int) : Bool := right a && right b && decide (a < b)
def acts (p : Int) : List Int :=
  if p = 1 then [1, 2, 3, 4, 8, 10] else if p = 2 then [2, 3, 4, 8, 10] else if p = 3 then [5, 8] else if p = 4 then [6, 8] else if p = 5 then [7, 8, 10] else if p = 6 then [9] else []
def allow (p : Int) : Int :=
  if p = 1 then 1310 else if p = 2 then 1308 else if p = 3 then 288 else if p = 4 then 320 else if p = 5 then 1408 else if p = 6 then 512 else 0
def may (p a : Int) : Bool := (acts p).contains a
def nameS (p : Int) : ByteArray :=
  if p = 1 then ⟨#[111, 112, 101, 110]⟩ else if p = 2 then ⟨#[99, 117, 116]⟩ else if p = 3 then ⟨#[112, 114, 105, 99, 101]⟩ else if p = 4 then ⟨#[109, 97, 114, 103, 105, 110]⟩
  else if p = 5 then ⟨#[115, 101, 116, 116, 108, 101]⟩ else if p = 6 then ⟨#[99, 108, 111, 115, 101, 100]⟩ else ⟨#[]⟩
open Classical in
noncomputable def ofN (s : ByteArray) : Int :=
  if nameS 1 = s then 1 else if nameS 2 = s then 2 else if nameS 3 = s then 3 else if nameS 4 = s then 4 else if nameS 5 = s then 5 else if nameS 6 = s then 6 else 0
noncomputable def ofB (s : ByteArray) : Bool := ofN s != 0

theorem seven (p : Int) : p = 1 ∨ p = 2 ∨ p = 3 ∨ p = 4 ∨ p = 5 ∨ p = 6 ∨ (p < 1 ∨ 6 < p) := by omega
theorem ten {a : Int} (h1 : 1 ≤ a) (h2 : a ≤ 10) : a = 1 ∨ a = 2 ∨ a = 3 ∨ a = 4 ∨ a = 5 ∨ a = 6 ∨ a = 7 ∨ a = 8 ∨ a = 9 ∨ a = 10 := by omega
theorem right_true {p : Int} : right p = true ↔ 1 ≤ p ∧ p ≤ 6 := by simp [right]
theorem right_false {p : Int} : right p = false ↔ p < 1 ∨ 6 < p := by simp [right]; omega
theorem acts_no {p : Int} (h : p < 1 ∨ 6 < p) : acts p = [] := by
  unfold acts; simp [show ¬ p = 1 by omega, show ¬ p = 2 by omega, show ¬ p = 3 by omega, show ¬ p = 4 by omega, show ¬ p = 5 by omega, show ¬ p = 6 by omega]
theorem allow_no {p : Int} (h : p < 1 ∨ 6 < p) : allow p = 0 := by
  unfold allow; simp [show ¬ p = 1 by omega, show ¬ p = 2 by omega, show ¬ p = 3 by omega, show ¬ p = 4 by omega, show ¬ p = 5 by omega, show ¬ p = 6 by omega]
theorem name_no {p : Int} (h : p < 1 ∨ 6 < p) : nameS p = ⟨#[]⟩ := by
  unfold nameS; simp [show ¬ p = 1 by omega, show ¬ p = 2 by omega, show ¬ p = 3 by omega, show ¬ p = 4 by omega, show ¬ p = 5 by omega, show ¬ p = 6 by omega]
theorem may_no {p a : Int} (h : a < 1 ∨ 10 < a) : may p a = false := by
  unfold may
  rcases seven p with rfl | rfl | rfl | rfl | rfl | rfl | hp
  case inr.inr.inr.inr.inr.inr => rw [acts_no hp]; rfl
  all_goals simp [acts]; omega
theorem may_out {p a : Int} (h : p < 1 ∨ 6 < p) : may p a = false := by unfold may; rw [acts_no h]; rfl
theorem acts_len (p : Int) : (acts p).length ≤ 6 := by
  rcases seven p with rfl | rfl | rfl | rfl | rfl | rfl | hp
  case inr.inr.inr.inr.inr.inr => rw [acts_no hp]; simp
  all_goals simp [acts]
theorem acts_range {p : Int} : ∀ n ∈ acts p, (1 : Int) ≤ n ∧ n ≤ 10 := by
  rcases seven p with rfl | rfl | rfl | rfl | rfl | rfl | hp
  case inr.inr.inr.inr.inr.inr => rw [acts_no hp]; simp
  all_goals simp [acts]
/-- the acts below k -/
def upto (p : Int) (k : Nat) : List Int := (acts p).filter (fun x => decide (x < (k : Int)))
theorem upto_one (p : Int) : upto p 1 = [] := by
  unfold upto
  rcases seven p with rfl | rfl | rfl | rfl | rfl | rfl | hp
  case inr.inr.inr.inr.inr.inr => rw [acts_no hp]; rfl
  all_goals decide
theorem upto_all (p : Int) : upto p 11 = acts p := by
  unfold upto
  rcases seven p with rfl | rfl | rfl | rfl | rfl | rfl | hp
  case inr.inr.inr.inr.inr.inr => rw [acts_no hp]; rfl
  all_goals decide
theorem upto_yes {p : Int} {k : Nat} (h1 : 1 ≤ k) (h2 : k ≤ 10) (h : may p k = true) : upto p (k + 1) = upto p k ++ [(k : Int)] := by
  have hk : k = 1 ∨ k = 2 ∨ k = 3 ∨ k = 4 ∨ k = 5 ∨ k = 6 ∨ k = 7 ∨ k = 8 ∨ k = 9 ∨ k = 10 := by omega
  rcases seven p with rfl | rfl | rfl | rfl | rfl | rfl | hp
  case inr.inr.inr.inr.inr.inr => rw [may_out hp] at h; cases h
  all_goals
    revert h
    rcases hk with rfl | rfl | rfl | rfl | rfl | rfl | rfl | rfl | rfl | rfl <;> decide
theorem upto_no {p : Int} {k : Nat} (h1 : 1 ≤ k) (h2 : k ≤ 10) (h : may p k = false) : upto p (k + 1) = upto p k := by
  have hk : k = 1 ∨ k = 2 ∨ k = 3 ∨ k = 4 ∨ k = 5 ∨ k = 6 ∨ k = 7 ∨ k = 8 ∨ k = 9 ∨ k = 10 := by omega
  rcases seven p with rfl | rfl | rfl | rfl | rfl | rfl | hp
  case inr.inr.inr.inr.inr.inr => unfold upto; rw [acts_no hp]; rfl
  all_goals
    revert h
    rcases hk with rfl | rfl | rfl | rfl | rfl | rfl | rfl | rfl | rfl | rfl <;> decide
theorem upto_len (p : Int) (k : Nat) : (upto p k).length ≤ 6 := Nat.le_trans (List.length_filter_le _ _) (acts_len p)

theorem of_found {s : ByteArray} {k : Nat} (h1 : 1 ≤ k) (h2 : k ≤ 6) (hn : ∀ j : Nat, 1 ≤ j → j < k → nameS j ≠ s) (h : nameS k = s) : ofN s = k ∧ ofB s = true := by
  have n1 : 1 < k → nameS 1 ≠ s := hn 1 (by omega)
  have n2 : 2 < k → nameS 2 ≠ s := hn 2 (by omega)
  have n3 : 3 < k → nameS 3 ≠ s := hn 3 (by omega)
  have n4 : 4 < k → nameS 4 ≠ s := hn 4 (by omega)
  have n5 : 5 < k → nameS 5 ≠ s := hn 5 (by omega)
  have hk : k = 1 ∨ k = 2 ∨ k = 3 ∨ k = 4 ∨ k = 5 ∨ k = 6 := by omega
  have e : ofN s = k := by
    unfold ofN
    rcases hk with rfl | rfl | rfl | rfl | rfl | rfl
    · have h : nameS 1 = s := h
      rw [if_pos h]; rfl
    · have h : nameS 2 = s := h
      rw [if_neg (n1 (by omega)), if_pos h]; rfl
    · have h : nameS 3 = s := h
      rw [if_neg (n1 (by omega)), if_neg (n2 (by omega)), if_pos h]; rfl
    · have h : nameS 4 = s := h
      rw [if_neg (n1 (by omega)), if_neg (n2 (by omega)), if_neg (n3 (by omega)), if_pos h]; rfl
    · have h : nameS 5 = s := h
      rw [if_neg (n1 (by omega)), if_neg (n2 (by omega)), if_neg (n3 (by omega)), if_neg (n4 (by omega)), if_pos h]; rfl
    · have h : nameS 6 = s := h
      rw [if_neg (n1 (by omega)), if_neg (n2 (by omega)), if_neg (n3 (by omega)), if_neg (n4 (by omega)), if_neg (n5 (by omega)), if_pos h]; rfl
  refine ⟨e, ?_⟩
  unfold ofB; rw [e]
  simp; omega
theorem of_none {s : ByteArray} (hn : ∀ j : Nat, 1 ≤ j → j < 7 → nameS j ≠ s) : ofN s = 0 ∧ ofB s = false := by
  have e : ofN s = 0 := by
    unfold ofN
    have n1 : nameS 1 ≠ s := hn 1 (by omega) (by omega)
    have n2 : nameS 2 ≠ s := hn 2 (by omega) (by omega)
    have n3 : nameS 3 ≠ s := hn 3 (by omega) (by omega)
    have n4 : nameS 4 ≠ s := hn 4 (by omega) (by omega)
    have n5 : nameS 5 ≠ s := hn 5 (by omega) (by omega)
    have n6 : nameS 6 ≠ s := hn 6 (by omega) (by omega)
    rw [if_neg n1, if_neg n2, if_neg n3, if_neg n4, if_neg n5, if_neg n6]
  exact ⟨e, by unfold ofB; rw [e]; rfl⟩
theorem name_ne {i j : Int} (h1 : 1 ≤ i) (h2 : i ≤ 6) (h3 : 1 ≤ j) (h4 : j ≤ 6) (h : i ≠ j) : nameS i ≠ nameS j := by
  intro e
  have hs := congrArg (fun b : ByteArray => b.data.toList) e
  have hi : i = 1 ∨ i = 2 ∨ i = 3 ∨ i = 4 ∨ i = 5 ∨ i = 6 := by omega
  have hj : j = 1 ∨ j = 2 ∨ j = 3 ∨ j = 4 ∨ j = 5 ∨ j = 6 := by omega
  rcases hi with rfl | rfl | rfl | rfl | rfl | rfl <;> rcases hj with rfl | rfl | rfl | rfl | rfl | rfl <;> first | (exact h rfl) | (revert hs; decide)
theorem of_name {p : Int} (h1 : 1 ≤ p) (h2 : p ≤ 6) : ofN (nameS p) = p ∧ ofB (nameS p) = true := by
  have := @of_found (nameS p) p.toNat (by omega) (by omega) (fun j hj1 hj2 => name_ne (by omega) (by omega) h1 h2 (by omega)) (by rw [Int.toNat_of_nonneg (by omega)])
  rw [Int.toNat_of_nonneg (by omega)] at this
  exact this
end PM
