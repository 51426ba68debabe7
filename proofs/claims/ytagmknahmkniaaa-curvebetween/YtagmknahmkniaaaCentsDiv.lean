/- Plain mathematics of the bitwise division. -/
import Derived.Test.YtagmknahmkniaaaCentsMath
namespace CM

/-- what the bitwise division holds after k of its 61 rounds -/
def DInv (a b c k : Nat) (q r : Int) : Prop :=
  q = ((a / 2 ^ (61 - k) * b / c : Nat) : Int) ∧ r = ((a / 2 ^ (61 - k) * b % c : Nat) : Int) ∧ q ≤ 1152921504606846976

/-- the bit of round k -/
def bitAt (a k : Nat) : Nat := a / 2 ^ (60 - k) % 2

theorem half_step (a k : Nat) (hk : k < 61) : a / 2 ^ (61 - (k + 1)) = 2 * (a / 2 ^ (61 - k)) + bitAt a k := by
  have e : 61 - k = (60 - k) + 1 := by omega
  have e2 : 61 - (k + 1) = 60 - k := by omega
  rw [e, e2, Nat.pow_succ, ← Nat.div_div_eq_div_mul]
  unfold bitAt
  omega

theorem bit_01 (a k : Nat) : bitAt a k = 0 ∨ bitAt a k = 1 := by unfold bitAt; omega

theorem DInv.start (a b c : Nat) (ha : a ≤ 1152921504606846976) : DInv a b c 0 0 0 := by
  have h : a / 2 ^ (61 - 0) = 0 := Nat.div_eq_of_lt (by omega)
  unfold DInv; rw [h]; simp

theorem DInv.bounds {a b c k : Nat} {q r : Int} (h : DInv a b c k q r) (hc : 0 < c) : 0 ≤ q ∧ q ≤ 1152921504606846976 ∧ 0 ≤ r ∧ r < c := by
  obtain ⟨h1, h2, h3⟩ := h
  have := Nat.mod_lt (a / 2 ^ (61 - k) * b) hc
  generalize a / 2 ^ (61 - k) * b / c = X at *
  generalize a / 2 ^ (61 - k) * b % c = Y at *
  omega

theorem step_div (A b c t : Nat) (hc : 0 < c) : (2 * A + t) * b / c = 2 * (A * b / c) + (2 * (A * b % c) + t * b) / c ∧ (2 * A + t) * b % c = (2 * (A * b % c) + t * b) % c := by
  have e : (2 * A + t) * b = c * (2 * (A * b / c)) + (2 * (A * b % c) + t * b) := by
    have := Nat.div_add_mod (A * b) c
    calc (2 * A + t) * b = 2 * (A * b) + t * b := by rw [Nat.add_mul, Nat.mul_assoc]
      _ = 2 * (c * (A * b / c) + A * b % c) + t * b := by rw [this]
      _ = _ := by rw [Nat.mul_add, Nat.mul_left_comm]; omega
  rw [e]
  exact ⟨by rw [Nat.mul_add_div hc], by rw [Nat.mul_add_mod]⟩

theorem split_div (r b c : Nat) (hc : 0 < c) : (2 * r + b) / c = b / c + (2 * r + b % c) / c ∧ (2 * r + b) % c = (2 * r + b % c) % c := by
  have e : 2 * r + b = c * (b / c) + (2 * r + b % c) := by
    have := Nat.div_add_mod b c
    omega
  rw [e]
  exact ⟨by rw [Nat.mul_add_div hc], by rw [Nat.mul_add_mod]⟩

theorem mono_div (a b c k : Nat) : a / 2 ^ (61 - (k + 1)) * b / c ≤ a * b / c :=
  Nat.div_le_div_right (Nat.mul_le_mul_right _ (Nat.div_le_self _ _))

theorem DInv.step0 {a b c k : Nat} {x y : Int} (h : DInv a b c k x y) (hk : k < 61) (hc : 0 < c) (hb : bitAt a k = 0) :
    (2 * x + 2 * y / (c : Int) ≤ 1152921504606846976 → DInv a b c (k + 1) (2 * x + 2 * y / (c : Int)) (2 * y % (c : Int))) ∧
    (1152921504606846976 < 2 * x + 2 * y / (c : Int) → 1152921504606846976 < a * b / c) := by
  obtain ⟨hx, hy, _⟩ := h
  have hs := half_step a k hk
  rw [hb] at hs
  obtain ⟨s1, s2⟩ := step_div (a / 2 ^ (61 - k)) b c 0 hc
  rw [← hs] at s1 s2
  have hm := mono_div a b c k
  have e1 : 2 * x + 2 * y / (c : Int) = ((a / 2 ^ (61 - (k + 1)) * b / c : Nat) : Int) := by
    rw [s1, hx, hy]; simp only [Nat.zero_mul, Nat.add_zero]; rw [Int.natCast_add, Int.natCast_mul, Int.natCast_ediv, Int.natCast_mul]; rfl
  have e2 : 2 * y % (c : Int) = ((a / 2 ^ (61 - (k + 1)) * b % c : Nat) : Int) := by
    rw [s2, hy]; simp only [Nat.zero_mul, Nat.add_zero]; rw [Int.natCast_emod, Int.natCast_mul]; rfl
  rw [e1, e2]
  exact ⟨fun hle => ⟨rfl, rfl, hle⟩, fun hlt => by omega⟩

theorem DInv.step1 {a b c k : Nat} {x y : Int} (h : DInv a b c k x y) (hk : k < 61) (hc : 0 < c) (hb : bitAt a k = 1) :
    (2 * x + (b : Int) / (c : Int) + (2 * y + (b : Int) % (c : Int)) / (c : Int) ≤ 1152921504606846976 → DInv a b c (k + 1) (2 * x + (b : Int) / (c : Int) + (2 * y + (b : Int) % (c : Int)) / (c : Int)) ((2 * y + (b : Int) % (c : Int)) % (c : Int))) ∧
    (1152921504606846976 < 2 * x + (b : Int) / (c : Int) + (2 * y + (b : Int) % (c : Int)) / (c : Int) → 1152921504606846976 < a * b / c) := by
  obtain ⟨hx, hy, _⟩ := h
  have hs := half_step a k hk
  rw [hb] at hs
  obtain ⟨s1, s2⟩ := step_div (a / 2 ^ (61 - k)) b c 1 hc
  rw [← hs, Nat.one_mul] at s1 s2
  obtain ⟨d1, d2⟩ := split_div (a / 2 ^ (61 - k) * b % c) b c hc
  rw [d1] at s1
  rw [d2] at s2
  have hm := mono_div a b c k
  have e1 : 2 * x + (b : Int) / (c : Int) + (2 * y + (b : Int) % (c : Int)) / (c : Int) = ((a / 2 ^ (61 - (k + 1)) * b / c : Nat) : Int) := by
    rw [s1, hx, hy, Int.add_assoc]
    simp only [Int.natCast_add, Int.natCast_mul, Int.natCast_ediv, Int.natCast_emod]; rfl
  have e2 : (2 * y + (b : Int) % (c : Int)) % (c : Int) = ((a / 2 ^ (61 - (k + 1)) * b % c : Nat) : Int) := by
    rw [s2, hy]
    simp only [Int.natCast_add, Int.natCast_mul, Int.natCast_emod]; rfl
  rw [e1, e2]
  exact ⟨fun hle => ⟨rfl, rfl, hle⟩, fun hlt => by omega⟩

/-- what the division tells -/
def dok (a b c : Nat) : Bool := decide (a * b / c ≤ 1152921504606846976)
def dq (a b c : Nat) : Int := if dok a b c then ((a * b / c : Nat) : Int) else 0
def dr (a b c : Nat) : Int := if dok a b c then ((a * b % c : Nat) : Int) else 0

theorem DInv.done {a b c : Nat} {x y : Int} (h : DInv a b c 61 x y) : x = dq a b c ∧ y = dr a b c ∧ dok a b c = true := by
  obtain ⟨hx, hy, hm⟩ := h
  simp only [Nat.sub_self, Nat.pow_zero, Nat.div_one] at hx hy
  have hk : dok a b c = true := by unfold dok; simp only [decide_eq_true_eq]; omega
  simp [dq, dr, hk, hx, hy]

theorem dok_no {a b c : Nat} (h : 1152921504606846976 < a * b / c) : dok a b c = false ∧ dq a b c = 0 ∧ dr a b c = 0 := by
  have hk : dok a b c = false := by unfold dok; simp only [decide_eq_false_iff_not]; omega
  simp [dq, dr, hk]
theorem dok_yes {a b c : Nat} (h : a * b / c ≤ 1152921504606846976) : dok a b c = true := by unfold dok; simpa using h

/-- the reference's quotient, held at 2^61 -/
def rq (a b c : Nat) : Int := if a * b / c ≤ 2305843009213693952 then ((a * b / c : Nat) : Int) else 2305843009213693952

/-- .. and the rest -/
def rr (a b c : Nat) : Int := ((a * b % c : Nat) : Int)

def RInv (a b c k : Nat) (q r : Int) : Prop :=
  q = rq (a / 2 ^ (61 - k)) b c ∧ r = ((a / 2 ^ (61 - k) * b % c : Nat) : Int)

theorem RInv.start (a b c : Nat) (ha : a ≤ 1152921504606846976) : RInv a b c 0 0 0 := by
  have h : a / 2 ^ (61 - 0) = 0 := Nat.div_eq_of_lt (by omega)
  unfold RInv rq; rw [h]; simp

theorem RInv.bounds {a b c k : Nat} {q r : Int} (h : RInv a b c k q r) (hc : 0 < c) : 0 ≤ q ∧ q ≤ 2305843009213693952 ∧ 0 ≤ r ∧ r < c := by
  obtain ⟨h1, h2⟩ := h
  have := Nat.mod_lt (a / 2 ^ (61 - k) * b) hc
  unfold rq at h1
  generalize a / 2 ^ (61 - k) * b / c = X at *
  generalize a / 2 ^ (61 - k) * b % c = Y at *
  split at h1 <;> omega

/-- one round of the reference: t is the bit, z what stands to be divided -/
theorem RInv.step {a b c k : Nat} {x y : Int} (h : RInv a b c k x y) (hk : k < 61) (hc : 0 < c) (z : Int) (hz : z = 2 * y + bitAt a k * b) :
    (2 * x + z / (c : Int) ≤ 2305843009213693952 → RInv a b c (k + 1) (2 * x + z / (c : Int)) (z % (c : Int))) ∧
    (2305843009213693952 < 2 * x + z / (c : Int) → RInv a b c (k + 1) 2305843009213693952 (z % (c : Int))) := by
  obtain ⟨hx, hy⟩ := h
  have hs := half_step a k hk
  obtain ⟨s1, s2⟩ := step_div (a / 2 ^ (61 - k)) b c (bitAt a k) hc
  rw [← hs] at s1 s2
  have ez : z = ((2 * (a / 2 ^ (61 - k) * b % c) + bitAt a k * b : Nat) : Int) := by
    rw [hz, hy]; simp only [Int.natCast_add, Int.natCast_mul, Int.natCast_emod]; rfl
  have e2 : z % (c : Int) = ((a / 2 ^ (61 - (k + 1)) * b % c : Nat) : Int) := by
    rw [s2, ez]; rfl
  have e1 : z / (c : Int) = (((2 * (a / 2 ^ (61 - k) * b % c) + bitAt a k * b) / c : Nat) : Int) := by
    rw [ez]; rfl
  unfold RInv rq
  rw [e2, e1]
  unfold rq at hx
  rw [s1]
  generalize (2 * (a / 2 ^ (61 - k) * b % c) + bitAt a k * b) / c = Z at *
  generalize a / 2 ^ (61 - k) * b / c = X at *
  constructor
  · intro hle
    split at hx
    · refine ⟨?_, rfl⟩
      rw [if_pos (by omega)]; omega
    · omega
  · intro hlt
    refine ⟨?_, rfl⟩
    split at hx
    · rw [if_neg (by omega)]
    · rw [if_neg (by omega)]

theorem RInv.done {a b c : Nat} {x y : Int} (h : RInv a b c 61 x y) : x = rq a b c ∧ y = rr a b c := by
  obtain ⟨hx, hy⟩ := h
  simp only [Nat.sub_self, Nat.pow_zero, Nat.div_one] at hx hy
  exact ⟨hx, hy⟩

/-- is the exact quotient's sign minus? -/
def neg (a b c : Int) : Bool := !((!(decide (a < 0) == decide (b < 0))) == decide (c < 0))

/-- does the quotient's size grow by one? -/
def grow (q r c mode : Int) (n : Bool) : Bool :=
  if r = 0 then false else if mode = 2 then true else if mode = 3 then n else if mode = 4 then !n else
  if mode = 5 then decide (c < 2 * r) || (decide (2 * r = c) && decide (q % 2 = 1)) else false

def mdQ (a b c : Int) : Nat := (size a).toNat * (size b).toNat / (size c).toNat
def mdR (a b c : Int) : Nat := (size a).toNat * (size b).toNat % (size c).toNat
/-- the rounded quotient's size -/
def mdG (a b c mode : Int) : Int := mdQ a b c + if grow (mdQ a b c) (mdR a b c) (size c) mode (neg a b c) then 1 else 0
def mdA (a b c mode : Int) : Bool := fits a && fits b && fits c && decide (1 ≤ mode) && decide (mode ≤ 5)
/-- MulDiv's number -/
def mdN (a b c mode : Int) : Int :=
  if mdA a b c mode then if c = 0 then 0 else if mdG a b c mode ≤ 1152921504606846976 then (if neg a b c then -mdG a b c mode else mdG a b c mode) else 0 else 0
/-- .. and its error -/
def mdE (a b c mode : Int) : Int :=
  if mdA a b c mode then if c = 0 then 4 else if mdG a b c mode ≤ 1152921504606846976 then 0 else 3 else 2

theorem size_pos {c : Int} (h : c ≠ 0) : 0 < size c := by unfold size; split <;> omega
theorem size_zero {c : Int} (h : size c = 0) : c = 0 := by unfold size at h; split at h <;> omega

theorem mdQ_nonneg (a b c : Int) : (0 : Int) ≤ mdQ a b c := Int.natCast_nonneg _
theorem mdR_lt (a b : Int) {c : Int} (h : c ≠ 0) : (mdR a b c : Int) < size c := by
  have := size_pos h
  have := Nat.mod_lt ((size a).toNat * (size b).toNat) (show 0 < (size c).toNat by omega)
  unfold mdR; omega

theorem dq_eq {a b c : Int} (h : dok (size a).toNat (size b).toNat (size c).toNat = true) :
    dq (size a).toNat (size b).toNat (size c).toNat = mdQ a b c ∧ dr (size a).toNat (size b).toNat (size c).toNat = mdR a b c := by
  simp [dq, dr, h, mdQ, mdR]
theorem dok_iff {a b c : Int} : dok (size a).toNat (size b).toNat (size c).toNat = true ↔ (mdQ a b c : Int) ≤ 1152921504606846976 := by
  unfold dok mdQ; simp only [decide_eq_true_eq]; omega

/-- what is told of the signed result, through 'fitting' -/
theorem md_fit {a b c mode g : Int} (hA : mdA a b c mode = true) (hc : c ≠ 0) (hg : g = if neg a b c then -mdG a b c mode else mdG a b c mode) :
    fitN g = mdN a b c mode ∧ fitE g = mdE a b c mode := by
  have h0 : 0 ≤ mdG a b c mode := by
    have := mdQ_nonneg a b c
    unfold mdG; split <;> omega
  unfold fitN fitE mdN mdE
  simp only [hA, hc, if_true, if_false]
  by_cases hle : mdG a b c mode ≤ 1152921504606846976
  · have hf : fits g = true := by rw [fits_true, hg]; split <;> omega
    rw [hg] at hf ⊢
    simp [hle, hf]
  · have hf : fits g = false := by rw [fits_false, hg]; split <;> omega
    simp [hle, hf]

/-- the quotient alone does not fit -/
theorem md_over {a b c mode : Int} (hA : mdA a b c mode = true) (hc : c ≠ 0) (h : 1152921504606846976 < (mdQ a b c : Int)) :
    mdN a b c mode = 0 ∧ mdE a b c mode = 3 := by
  have h0 : ¬ mdG a b c mode ≤ 1152921504606846976 := by unfold mdG; split <;> omega
  simp [mdN, mdE, hA, hc, h0]
end CM
