/- Plain mathematics of layer 2: checks of lists, digitwise division. -/
import Derived.Test.YtgpdkidbmfngmaaListMath
import Derived.IntWalk
namespace SM
open LM

def inR (n : Int) : Bool := decide (0 ≤ n) && decide (n ≤ 1152921504606846976)
theorem inR_true {n : Int} : inR n = true ↔ 0 ≤ n ∧ n ≤ 1152921504606846976 := by simp [inR]
theorem inR_false {n : Int} : inR n = false ↔ n < 0 ∨ 1152921504606846976 < n := by simp [inR]; omega

def allR (l : List Int) : Bool := l.all inR
theorem allR_take_succ (l : List Int) (k : Nat) (h : k < l.length) : allR (l.take (k + 1)) = (allR (l.take k) && inR (l.getD k 0)) := by
  rw [take_snoc l k h]; simp [allR]
theorem allR_no {l : List Int} {k : Nat} (hk : k < l.length) (h : inR (l.getD k 0) = false) : allR l = false := by
  cases hc : allR l
  · rfl
  · have := (List.all_eq_true.1 hc) _ (getD_mem l k hk)
    rw [h] at this; exact absurd this (by simp)
theorem allR_get {l : List Int} (h : allR l = true) {k : Nat} (hk : k < l.length) : 0 ≤ l.getD k 0 ∧ l.getD k 0 ≤ 1152921504606846976 :=
  inR_true.1 (List.all_eq_true.1 h _ (getD_mem l k hk))
theorem tot_nonneg {l : List Int} (h : allR l = true) : 0 ≤ tot l := by
  induction l with
  | nil => exact Int.le_refl _
  | cons x l ih =>
    simp [allR] at h
    have := ih (by simpa [allR] using h.2)
    have := (inR_true.1 h.1).1
    simp only [tot]; omega
theorem allR_take {l : List Int} (h : allR l = true) (k : Nat) : allR (l.take k) = true := by
  simp only [allR, List.all_eq_true] at h ⊢
  exact fun x hx => h x (List.mem_of_mem_take hx)
theorem allR_drop {l : List Int} (h : allR l = true) (k : Nat) : allR (l.drop k) = true := by
  simp only [allR, List.all_eq_true] at h ⊢
  exact fun x hx => h x (List.mem_of_mem_drop hx)
theorem tot_take_le {l : List Int} (h : allR l = true) (k : Nat) : tot (l.take k) ≤ tot l := by
  have e : tot l = tot (l.take k) + tot (l.drop k) := by rw [← tot_append, List.take_append_drop]
  have := tot_nonneg (allR_drop h k)
  omega

/-- the weights are each in range and fit together -/
def wOk (l : List Int) : Bool := allR l && decide (tot l ≤ 1152921504606846976)
def wN (l : List Int) : Int := if wOk l then tot l else 0
def wE (l : List Int) : Int := if wOk l then 0 else 26
/-- .. and there are not too many -/
def sN (l : List Int) : Int := if 1024 < l.length then 0 else wN l
def sE (l : List Int) : Int := if 1024 < l.length then 8 else wE l

def WInv (l : List Int) (k : Nat) (s : Int) : Prop := allR (l.take k) = true ∧ s = tot (l.take k) ∧ 0 ≤ s ∧ s ≤ 1152921504606846976
theorem WInv.start (l : List Int) : WInv l 0 0 := ⟨rfl, rfl, by omega, by omega⟩
theorem WInv.bounds {l : List Int} {k : Nat} {s : Int} (h : WInv l k s) : 0 ≤ s ∧ s ≤ 1152921504606846976 := h.2.2
theorem WInv.step {l : List Int} {k : Nat} {s v : Int} (h : WInv l k s) (hk : k < l.length) (hv : l.getD k 0 = v) (hr : inR v = true) (hs : v ≤ 1152921504606846976 - s) : WInv l (k + 1) (s + v) := by
  obtain ⟨a, b, c, d⟩ := h
  have := (inR_true.1 hr).1
  refine ⟨by rw [allR_take_succ l k hk, a, hv, hr]; rfl, by rw [tot_take_succ l k hk, ← b, hv], by omega, by omega⟩
theorem WInv.over {l : List Int} {k : Nat} {s v : Int} (h : WInv l k s) (hk : k < l.length) (hv : l.getD k 0 = v) (hs : 1152921504606846976 - s < v) : wOk l = false := by
  cases hc : allR l
  · simp [wOk, hc]
  · have := tot_take_le hc (k + 1)
    rw [tot_take_succ l k hk, ← h.2.1, hv] at this
    simp [wOk, hc]; omega
theorem wOk_no {l : List Int} {k : Nat} (hk : k < l.length) (h : inR (l.getD k 0) = false) : wOk l = false := by simp [wOk, allR_no hk h]
theorem WInv.done {l : List Int} {s : Int} (h : WInv l l.length s) : wOk l = true ∧ s = tot l := by
  obtain ⟨a, b, c, d⟩ := h
  rw [List.take_length] at a b
  subst b
  exact ⟨by simp [wOk, a]; omega, rfl⟩
theorem w_no {l : List Int} (h : wOk l = false) : wN l = 0 ∧ wE l = 26 := by simp [wN, wE, h]
theorem w_yes {l : List Int} (h : wOk l = true) : wN l = tot l ∧ wE l = 0 := by simp [wN, wE, h]

/-! digitwise division -/
theorem step_div (D A b c t : Nat) (hc : 0 < c) : (D * A + t) * b / c = D * (A * b / c) + (D * (A * b % c) + t * b) / c ∧ (D * A + t) * b % c = (D * (A * b % c) + t * b) % c := by
  have e : (D * A + t) * b = c * (D * (A * b / c)) + (D * (A * b % c) + t * b) := by
    have h := Nat.div_add_mod (A * b) c
    have h2 : (D * A + t) * b = D * (A * b) + t * b := by rw [Nat.add_mul, Nat.mul_assoc]
    have h3 : D * (A * b) = D * (c * (A * b / c)) + D * (A * b % c) := by rw [← Nat.mul_add, h]
    have h4 : D * (c * (A * b / c)) = c * (D * (A * b / c)) := Nat.mul_left_comm _ _ _
    omega
  rw [e]
  exact ⟨by rw [Nat.mul_add_div hc], by rw [Nat.mul_add_mod]⟩

def PInv (a b c k : Nat) (q r : Int) : Prop :=
  q = ((a / 4 ^ (31 - k) * b / c : Nat) : Int) ∧ r = ((a / 4 ^ (31 - k) * b % c : Nat) : Int)
def digit (a k : Nat) : Nat := a / 4 ^ (30 - k) % 4
theorem digit_lt (a k : Nat) : digit a k < 4 := Nat.mod_lt _ (by omega)
theorem quart_step (a k : Nat) (hk : k < 31) : a / 4 ^ (31 - (k + 1)) = 4 * (a / 4 ^ (31 - k)) + digit a k := by
  have e : 31 - k = (30 - k) + 1 := by omega
  have e2 : 31 - (k + 1) = 30 - k := by omega
  rw [e, e2, Nat.pow_succ, ← Nat.div_div_eq_div_mul]
  unfold digit
  omega
theorem PInv.start (a b c : Nat) (ha : a ≤ 1152921504606846976) : PInv a b c 0 0 0 := by
  have h : a / 4 ^ (31 - 0) = 0 := Nat.div_eq_of_lt (by omega)
  unfold PInv; rw [h]; simp
theorem quot_le {a b c : Nat} (h : b ≤ c) : a * b / c ≤ a := by
  rcases Nat.eq_zero_or_pos c with h0 | h0
  · subst h0; simp
  · exact Nat.div_le_of_le_mul (by rw [Nat.mul_comm c a]; exact Nat.mul_le_mul_left _ h)
theorem PInv.bounds {a b c k : Nat} {q r : Int} (h : PInv a b c k q r) (hc : 0 < c) (hb : b ≤ c) : 0 ≤ q ∧ q ≤ a ∧ (k < 31 → 4 * q ≤ a) ∧ 0 ≤ r ∧ r < c := by
  obtain ⟨h1, h2⟩ := h
  have m := Nat.mod_lt (a / 4 ^ (31 - k) * b) hc
  have q1 := @quot_le (a / 4 ^ (31 - k)) b c hb
  have q2 := Nat.div_le_self a (4 ^ (31 - k))
  have q3 : k < 31 → 4 * (a / 4 ^ (31 - k)) ≤ a := fun hlt => by
    have := quart_step a k hlt
    have := Nat.div_le_self a (4 ^ (31 - (k + 1)))
    omega
  generalize a / 4 ^ (31 - k) * b / c = X at *
  generalize a / 4 ^ (31 - k) * b % c = Y at *
  refine ⟨by omega, by omega, fun hlt => by have := q3 hlt; omega, by omega, by omega⟩
theorem PInv.step {a b c k : Nat} {q r : Int} (h : PInv a b c k q r) (hk : k < 31) (hc : 0 < c) (t v : Int) (ht : t = digit a k) (hv : v = 4 * r + t * b) :
    PInv a b c (k + 1) (4 * q + v / (c : Int)) (v % (c : Int)) := by
  obtain ⟨hq, hr⟩ := h
  obtain ⟨s1, s2⟩ := step_div 4 (a / 4 ^ (31 - k)) b c (digit a k) hc
  rw [← quart_step a k hk] at s1 s2
  have ev : v = ((4 * (a / 4 ^ (31 - k) * b % c) + digit a k * b : Nat) : Int) := by
    rw [hv, hr, ht]; simp only [Int.natCast_add, Int.natCast_mul, Int.natCast_emod]; rfl
  unfold PInv
  rw [s1, s2, ev, hq]
  constructor
  · simp only [Int.natCast_add, Int.natCast_mul, Int.natCast_ediv, Int.natCast_emod]; rfl
  · rfl

/-- total times weight by sum, rounded down -/
def pq (a b c : Int) : Int := a * b / c
def pr (a b c : Int) : Int := a * b % c
theorem PInv.done {a b c : Nat} {q r : Int} (h : PInv a b c 31 q r) : q = pq a b c ∧ r = pr a b c := by
  obtain ⟨hq, hr⟩ := h
  simp only [Nat.sub_self, Nat.pow_zero, Nat.div_one] at hq hr
  unfold pq pr
  rw [hq, hr]
  exact ⟨by rw [Int.natCast_ediv, Int.natCast_mul], by rw [Int.natCast_emod, Int.natCast_mul]⟩

/-- the reference's, bit by bit, with the quotient not yet taken out -/
def BInv (a b c k : Nat) (q r : Int) : Prop := q * c + r = ((a / 2 ^ (61 - k) * b : Nat) : Int) ∧ 0 ≤ q ∧ 0 ≤ r
def bitAt (a k : Nat) : Nat := a / 2 ^ (60 - k) % 2
theorem half_step (a k : Nat) (hk : k < 61) : a / 2 ^ (61 - (k + 1)) = 2 * (a / 2 ^ (61 - k)) + bitAt a k := by
  have e : 61 - k = (60 - k) + 1 := by omega
  have e2 : 61 - (k + 1) = 60 - k := by omega
  rw [e, e2, Nat.pow_succ, ← Nat.div_div_eq_div_mul]
  unfold bitAt
  omega
theorem bit_01 (a k : Nat) : bitAt a k = 0 ∨ bitAt a k = 1 := by unfold bitAt; omega
theorem BInv.start (a b c : Nat) (ha : a ≤ 1152921504606846976) : BInv a b c 0 0 0 := by
  have h : a / 2 ^ (61 - 0) = 0 := Nat.div_eq_of_lt (by omega)
  unfold BInv; rw [h]; simp
theorem BInv.double {a b c k : Nat} {q r : Int} (h : BInv a b c k q r) (hk : k < 61) (z : Int) (hz : z = 2 * r + bitAt a k * b) : BInv a b c (k + 1) (2 * q) z := by
  obtain ⟨h1, h2, h3⟩ := h
  refine ⟨?_, by omega, ?_⟩
  · rw [half_step a k hk, hz, Nat.add_mul, Int.natCast_add, Nat.mul_assoc, Int.natCast_mul, ← h1, Int.natCast_mul, Int.mul_assoc]
    have : ((2 : Nat) : Int) = 2 := rfl
    rw [this, Int.mul_add]; omega
  · have : (0 : Int) ≤ (bitAt a k : Int) * b := Int.mul_nonneg (Int.natCast_nonneg _) (Int.natCast_nonneg _)
    omega
theorem BInv.less {a b c k : Nat} {q r : Int} (h : BInv a b c k q r) (hr : (c : Int) ≤ r) : BInv a b c k (q + 1) (r - c) := by
  obtain ⟨h1, h2, h3⟩ := h
  refine ⟨?_, by omega, by omega⟩
  rw [← h1, Int.add_mul]; omega
theorem BInv.q_le {a b c k : Nat} {q r : Int} (h : BInv a b c k q r) (hc : 0 < c) (hb : b ≤ c) : q ≤ a := by
  obtain ⟨h1, h2, h3⟩ := h
  have hA := Nat.div_le_self a (2 ^ (61 - k))
  have h4 : a / 2 ^ (61 - k) * b ≤ a * c := Nat.mul_le_mul hA hb
  have h5 : q * c ≤ (a : Int) * c := by
    have : ((a / 2 ^ (61 - k) * b : Nat) : Int) ≤ ((a * c : Nat) : Int) := by omega
    rw [Int.natCast_mul a c] at this
    omega
  exact Int.le_of_mul_le_mul_right h5 (by omega)
theorem BInv.done {a b c : Nat} {q r : Int} (h : BInv a b c 61 q r) (hr : r < c) : q = pq a b c ∧ r = pr a b c := by
  obtain ⟨h1, h2, h3⟩ := h
  simp only [Nat.sub_self, Nat.pow_zero, Nat.div_one, Int.natCast_mul] at h1
  unfold pq pr
  rw [← h1]
  constructor
  · rw [Int.add_comm, Int.add_mul_ediv_right _ _ (by omega), Int.ediv_eq_zero_of_lt h3 hr]; omega
  · rw [Int.add_comm, Int.add_mul_emod_self_right, Int.emod_eq_of_lt h3 hr]
end SM
