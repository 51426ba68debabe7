/- Put together: CentsDiv, CentsDiv2, CentsMul, CentsLaws, RateMath, WordMath2, WordMath3. -/
import Derived.Test.YthippdmfeeopkaaBun1
/- Plain mathematics of the bitwise division. -/
namespace CM

/-- what the bitwise division holds after k of its 61 rounds -/
def DInv (a b c k : Nat) (q r : Int) : Prop :=
  q = ((a / 2 ^ (61 - k) * b / c : Nat) : Int) ∧ r = ((a / 2 ^ (61 - k) * b % c : Nat) : Int) ∧ q ≤ 1152921504606846976

/-- the bit of round k -/
def bitAt (a k : Nat) : Nat := a / 2 ^ (60 - k) % 2

theorem half_step (a k : Nat) (hk : k < 61) : a / 2 ^ (61 - (k + 1)) = 2 * (a / 2 ^ (61 - k)) + bitAt a k := by
  have e : 61 - k = (60 - k) + 1 := by omega
  have e2 : 61 - (k + 1) = 60 - k := by omega
  rw [e, e2, Nat.pow_succ, ← Nat.div_div_eq_div_mul]
  unfold bitAt
  omega

theorem bit_01 (a k : Nat) : bitAt a k = 0 ∨ bitAt a k = 1 := by unfold bitAt; omega

theorem DInv.start (a b c : Nat) (ha : a ≤ 1152921504606846976) : DInv a b c 0 0 0 := by
  have h : a / 2 ^ (61 - 0) = 0 := Nat.div_eq_of_lt (by omega)
  unfold DInv; rw [h]; simp

theorem DInv.bounds {a b c k : Nat} {q r : Int} (h : DInv a b c k q r) (hc : 0 < c) : 0 ≤ q ∧ q ≤ 1152921504606846976 ∧ 0 ≤ r ∧ r < c := by
  obtain ⟨h1, h2, h3⟩ := h
  have := Nat.mod_lt (a / 2 ^ (61 - k) * b) hc
  generalize a / 2 ^ (61 - k) * b / c = X at *
  generalize a / 2 ^ (61 - k) * b % c = Y at *
  omega

theorem step_div (A b c t : Nat) (hc : 0 < c) : (2 * A + t) * b / c = 2 * (A * b / c) + (2 * (A * b % c) + t * b) / c ∧ (2 * A + t) * b % c = (2 * (A * b % c) + t * b) % c := by
  have e : (2 * A + t) * b = c * (2 * (A * b / c)) + (2 * (A * b % c) + t * b) := by
    have := Nat.div_add_mod (A * b) c
    calc (2 * A + t) * b = 2 * (A * b) + t * b := by rw [Nat.add_mul, Nat.mul_assoc]
      _ = 2 * (c * (A * b / c) + A * b % c) + t * b := by rw [this]
      _ = _ := by rw [Nat.mul_add, Nat.mul_left_comm]; omega
  rw [e]
  exact ⟨by rw [Nat.mul_add_div hc], by rw [Nat.mul_add_mod]⟩

theorem split_div (r b c : Nat) (hc : 0 < c) : (2 * r + b) / c = b / c + (2 * r + b % c) / c ∧ (2 * r + b) % c = (2 * r + b % c) % c := by
  have e : 2 * r + b = c * (b / c) + (2 * r + b % c) := by
    have := Nat.div_add_mod b c
    omega
  rw [e]
  exact ⟨by rw [Nat.mul_add_div hc], by rw [Nat.mul_add_mod]⟩

theorem mono_div (a b c k : Nat) : a / 2 ^ (61 - (k + 1)) * b / c ≤ a * b / c :=
  Nat.div_le_div_right (Nat.mul_le_mul_right _ (Nat.div_le_self _ _))

theorem DInv.step0 {a b c k : Nat} {x y : Int} (h : DInv a b c k x y) (hk : k < 61) (hc : 0 < c) (hb : bitAt a k = 0) :
    (2 * x + 2 * y / (c : Int) ≤ 1152921504606846976 → DInv a b c (k + 1) (2 * x + 2 * y / (c : Int)) (2 * y % (c : Int))) ∧
    (1152921504606846976 < 2 * x + 2 * y / (c : Int) → 1152921504606846976 < a * b / c) := by
  obtain ⟨hx, hy, _⟩ := h
  have hs := half_step a k hk
  rw [hb] at hs
  obtain ⟨s1, s2⟩ := step_div (a / 2 ^ (61 - k)) b c 0 hc
  rw [← hs] at s1 s2
  have hm := mono_div a b c k
  have e1 : 2 * x + 2 * y / (c : Int) = ((a / 2 ^ (61 - (k + 1)) * b / c : Nat) : Int) := by
    rw [s1, hx, hy]; simp only [Nat.zero_mul, Nat.add_zero]; rw [Int.natCast_add, Int.natCast_mul, Int.natCast_ediv, Int.natCast_mul]; rfl
  have e2 : 2 * y % (c : Int) = ((a / 2 ^ (61 - (k + 1)) * b % c : Nat) : Int) := by
    rw [s2, hy]; simp only [Nat.zero_mul, Nat.add_zero]; rw [Int.natCast_emod, Int.natCast_mul]; rfl
  rw [e1, e2]
  exact ⟨fun hle => ⟨rfl, rfl, hle⟩, fun hlt => by omega⟩

theorem DInv.step1 {a b c k : Nat} {x y : Int} (h : DInv a b c k x y) (hk : k < 61) (hc : 0 < c) (hb : bitAt a k = 1) :
    (2 * x + (b : Int) / (c : Int) + (2 * y + (b : Int) % (c : Int)) / (c : Int) ≤ 1152921504606846976 → DInv a b c (k + 1) (2 * x + (b : Int) / (c : Int) + (2 * y + (b : Int) % (c : Int)) / (c : Int)) ((2 * y + (b : Int) % (c : Int)) % (c : Int))) ∧
    (1152921504606846976 < 2 * x + (b : Int) / (c : Int) + (2 * y + (b : Int) % (c : Int)) / (c : Int) → 1152921504606846976 < a * b / c) := by
  obtain ⟨hx, hy, _⟩ := h
  have hs := half_step a k hk
  rw [hb] at hs
  obtain ⟨s1, s2⟩ := step_div (a / 2 ^ (61 - k)) b c 1 hc
  rw [← hs, Nat.one_mul] at s1 s2
  obtain ⟨d1, d2⟩ := split_div (a / 2 ^ (61 - k) * b % c) b c hc
  rw [d1] at s1
  rw [d2] at s2
  have hm := mono_div a b c k
  have e1 : 2 * x + (b : Int) / (c : Int) + (2 * y + (b : Int) % (c : Int)) / (c : Int) = ((a / 2 ^ (61 - (k + 1)) * b / c : Nat) : Int) := by
    rw [s1, hx, hy, Int.add_assoc]
    simp only [Int.natCast_add, Int.natCast_mul, Int.natCast_ediv, Int.natCast_emod]; rfl
  have e2 : (2 * y + (b : Int) % (c : Int)) % (c : Int) = ((a / 2 ^ (61 - (k + 1)) * b % c : Nat) : Int) := by
    rw [s2, hy]
    simp only [Int.natCast_add, Int.natCast_mul, Int.natCast_emod]; rfl
  rw [e1, e2]
  exact ⟨fun hle => ⟨rfl, rfl, hle⟩, fun hlt => by omega⟩

/-- what the division tells -/
def dok (a b c : Nat) : Bool := decide (a * b / c ≤ 1152921504606846976)
def dq (a b c : Nat) : Int := if dok a b c then ((a * b / c : Nat) : Int) else 0
def dr (a b c : Nat) : Int := if dok a b c then ((a * b % c : Nat) : Int) else 0

theorem DInv.done {a b c : Nat} {x y : Int} (h : DInv a b c 61 x y) : x = dq a b c ∧ y = dr a b c ∧ dok a b c = true := by
  obtain ⟨hx, hy, hm⟩ := h
  simp only [Nat.sub_self, Nat.pow_zero, Nat.div_one] at hx hy
  have hk : dok a b c = true := by unfold dok; simp only [decide_eq_true_eq]; omega
  simp [dq, dr, hk, hx, hy]

theorem dok_no {a b c : Nat} (h : 1152921504606846976 < a * b / c) : dok a b c = false ∧ dq a b c = 0 ∧ dr a b c = 0 := by
  have hk : dok a b c = false := by unfold dok; simp only [decide_eq_false_iff_not]; omega
  simp [dq, dr, hk]
theorem dok_yes {a b c : Nat} (h : a * b / c ≤ 1152921504606846976) : dok a b c = true := by unfold dok; simpa using h

/-- the reference's quotient, held at 2^61 -/
def rq (a b c : Nat) : Int := if a * b / c ≤ 2305843009213693952 then ((a * b / c : Nat) : Int) else 2305843009213693952

/-- .. and the rest -/
def rr (a b c : Nat) : Int := ((a * b % c : Nat) : Int)

def RInv (a b c k : Nat) (q r : Int) : Prop :=
  q = rq (a / 2 ^ (61 - k)) b c ∧ r = ((a / 2 ^ (61 - k) * b % c : Nat) : Int)

theorem RInv.start (a b c : Nat) (ha : a ≤ 1152921504606846976) : RInv a b c 0 0 0 := by
  have h : a / 2 ^ (61 - 0) = 0 := Nat.div_eq_of_lt (by omega)
  unfold RInv rq; rw [h]; simp

theorem RInv.bounds {a b c k : Nat} {q r : Int} (h : RInv a b c k q r) (hc : 0 < c) : 0 ≤ q ∧ q ≤ 2305843009213693952 ∧ 0 ≤ r ∧ r < c := by
  obtain ⟨h1, h2⟩ := h
  have := Nat.mod_lt (a / 2 ^ (61 - k) * b) hc
  unfold rq at h1
  generalize a / 2 ^ (61 - k) * b / c = X at *
  generalize a / 2 ^ (61 - k) * b % c = Y at *
  split at h1 <;> omega

/-- one round of the reference: t is the bit, z what stands to be divided -/
theorem RInv.step {a b c k : Nat} {x y : Int} (h : RInv a b c k x y) (hk : k < 61) (hc : 0 < c) (z : Int) (hz : z = 2 * y + bitAt a k * b) :
    (2 * x + z / (c : Int) ≤ 2305843009213693952 → RInv a b c (k + 1) (2 * x + z / (c : Int)) (z % (c : Int))) ∧
    (2305843009213693952 < 2 * x + z / (c : Int) → RInv a b c (k + 1) 2305843009213693952 (z % (c : Int))) := by
  obtain ⟨hx, hy⟩ := h
  have hs := half_step a k hk
  obtain ⟨s1, s2⟩ := step_div (a / 2 ^ (61 - k)) b c (bitAt a k) hc
  rw [← hs] at s1 s2
  have ez : z = ((2 * (a / 2 ^ (61 - k) * b % c) + bitAt a k * b : Nat) : Int) := by
    rw [hz, hy]; simp only [Int.natCast_add, Int.natCast_mul, Int.natCast_emod]; rfl
  have e2 : z % (c : Int) = ((a / 2 ^ (61 - (k + 1)) * b % c : Nat) : Int) := by
    rw [s2, ez]; rfl
  have e1 : z / (c : Int) = (((2 * (a / 2 ^ (61 - k) * b % c) + bitAt a k * b) / c : Nat) : Int) := by
    rw [ez]; rfl
  unfold RInv rq
  rw [e2, e1]
  unfold rq at hx
  rw [s1]
  generalize (2 * (a / 2 ^ (61 - k) * b % c) + bitAt a k * b) / c = Z at *
  generalize a / 2 ^ (61 - k) * b / c = X at *
  constructor
  · intro hle
    split at hx
    · refine ⟨?_, rfl⟩
      rw [if_pos (by omega)]; omega
    · omega
  · intro hlt
    refine ⟨?_, rfl⟩
    split at hx
    · rw [if_neg (by omega)]
    · rw [if_neg (by omega)]

theorem RInv.done {a b c : Nat} {x y : Int} (h : RInv a b c 61 x y) : x = rq a b c ∧ y = rr a b c := by
  obtain ⟨hx, hy⟩ := h
  simp only [Nat.sub_self, Nat.pow_zero, Nat.div_one] at hx hy
  exact ⟨hx, hy⟩

/-- is the exact quotient's sign minus? -/
def neg (a b c : Int) : Bool := !((!(decide (a < 0) == decide (b < 0))) == decide (c < 0))

/-- does the quotient's size grow by one? -/
def grow (q r c mode : Int) (n : Bool) : Bool :=
  if r = 0 then false else if mode = 2 then true else if mode = 3 then n else if mode = 4 then !n else
  if mode = 5 then decide (c < 2 * r) || (decide (2 * r = c) && decide (q % 2 = 1)) else false

def mdQ (a b c : Int) : Nat := (size a).toNat * (size b).toNat / (size c).toNat
def mdR (a b c : Int) : Nat := (size a).toNat * (size b).toNat % (size c).toNat
/-- the rounded quotient's size -/
def mdG (a b c mode : Int) : Int := mdQ a b c + if grow (mdQ a b c) (mdR a b c) (size c) mode (neg a b c) then 1 else 0
def mdA (a b c mode : Int) : Bool := fits a && fits b && fits c && decide (1 ≤ mode) && decide (mode ≤ 5)
/-- MulDiv's number -/
def mdN (a b c mode : Int) : Int :=
  if mdA a b c mode then if c = 0 then 0 else if mdG a b c mode ≤ 1152921504606846976 then (if neg a b c then -mdG a b c mode else mdG a b c mode) else 0 else 0
/-- .. and its error -/
def mdE (a b c mode : Int) : Int :=
  if mdA a b c mode then if c = 0 then 4 else if mdG a b c mode ≤ 1152921504606846976 then 0 else 3 else 2

theorem size_pos {c : Int} (h : c ≠ 0) : 0 < size c := by unfold size; split <;> omega
theorem size_zero {c : Int} (h : size c = 0) : c = 0 := by unfold size at h; split at h <;> omega

theorem mdQ_nonneg (a b c : Int) : (0 : Int) ≤ mdQ a b c := Int.natCast_nonneg _
theorem mdR_lt (a b : Int) {c : Int} (h : c ≠ 0) : (mdR a b c : Int) < size c := by
  have := size_pos h
  have := Nat.mod_lt ((size a).toNat * (size b).toNat) (show 0 < (size c).toNat by omega)
  unfold mdR; omega

theorem dq_eq {a b c : Int} (h : dok (size a).toNat (size b).toNat (size c).toNat = true) :
    dq (size a).toNat (size b).toNat (size c).toNat = mdQ a b c ∧ dr (size a).toNat (size b).toNat (size c).toNat = mdR a b c := by
  simp [dq, dr, h, mdQ, mdR]
theorem dok_iff {a b c : Int} : dok (size a).toNat (size b).toNat (size c).toNat = true ↔ (mdQ a b c : Int) ≤ 1152921504606846976 := by
  unfold dok mdQ; simp only [decide_eq_true_eq]; omega

/-- what is told of the signed result, through 'fitting' -/
theorem md_fit {a b c mode g : Int} (hA : mdA a b c mode = true) (hc : c ≠ 0) (hg : g = if neg a b c then -mdG a b c mode else mdG a b c mode) :
    fitN g = mdN a b c mode ∧ fitE g = mdE a b c mode := by
  have h0 : 0 ≤ mdG a b c mode := by
    have := mdQ_nonneg a b c
    unfold mdG; split <;> omega
  unfold fitN fitE mdN mdE
  simp only [hA, hc, if_true, if_false]
  by_cases hle : mdG a b c mode ≤ 1152921504606846976
  · have hf : fits g = true := by rw [fits_true, hg]; split <;> omega
    rw [hg] at hf ⊢
    simp [hle, hf]
  · have hf : fits g = false := by rw [fits_false, hg]; split <;> omega
    simp [hle, hf]

/-- the quotient alone does not fit -/
theorem md_over {a b c mode : Int} (hA : mdA a b c mode = true) (hc : c ≠ 0) (h : 1152921504606846976 < (mdQ a b c : Int)) :
    mdN a b c mode = 0 ∧ mdE a b c mode = 3 := by
  have h0 : ¬ mdG a b c mode ≤ 1152921504606846976 := by unfold mdG; split <;> omega
  simp [mdN, mdE, hA, hc, h0]
end CM

namespace CM
theorem ref_bounds (a b : Int) {c : Int} (hc : c ≠ 0) :
    0 ≤ rq (size a).toNat (size b).toNat (size c).toNat ∧ rq (size a).toNat (size b).toNat (size c).toNat ≤ 2305843009213693952 ∧
    0 ≤ rr (size a).toNat (size b).toNat (size c).toNat ∧ rr (size a).toNat (size b).toNat (size c).toNat < size c := by
  have h := mdR_lt a b hc
  unfold mdR at h
  unfold rq rr
  refine ⟨by split; exact Int.natCast_nonneg _; omega, by split <;> omega, Int.natCast_nonneg _, h⟩

theorem md_ref {a b c mode : Int} (hA : mdA a b c mode = true) (hc : c ≠ 0) :
    (1152921504606846976 < rq (size a).toNat (size b).toNat (size c).toNat + (if grow (rq (size a).toNat (size b).toNat (size c).toNat) (rr (size a).toNat (size b).toNat (size c).toNat) (size c) mode (neg a b c) then 1 else 0) →
      mdN a b c mode = 0 ∧ mdE a b c mode = 3) ∧
    (rq (size a).toNat (size b).toNat (size c).toNat + (if grow (rq (size a).toNat (size b).toNat (size c).toNat) (rr (size a).toNat (size b).toNat (size c).toNat) (size c) mode (neg a b c) then 1 else 0) ≤ 1152921504606846976 →
      mdN a b c mode = (if neg a b c then -(rq (size a).toNat (size b).toNat (size c).toNat + (if grow (rq (size a).toNat (size b).toNat (size c).toNat) (rr (size a).toNat (size b).toNat (size c).toNat) (size c) mode (neg a b c) then 1 else 0))
        else rq (size a).toNat (size b).toNat (size c).toNat + (if grow (rq (size a).toNat (size b).toNat (size c).toNat) (rr (size a).toNat (size b).toNat (size c).toNat) (size c) mode (neg a b c) then 1 else 0)) ∧ mdE a b c mode = 0) := by
  by_cases hQ : (size a).toNat * (size b).toNat / (size c).toNat ≤ 2305843009213693952
  · have e1 : rq (size a).toNat (size b).toNat (size c).toNat = mdQ a b c := by unfold rq mdQ; rw [if_pos hQ]
    have e2 : rr (size a).toNat (size b).toNat (size c).toNat = mdR a b c := rfl
    rw [e1, e2]
    have e3 : (mdQ a b c : Int) + (if grow (mdQ a b c) (mdR a b c) (size c) mode (neg a b c) then 1 else 0) = mdG a b c mode := rfl
    rw [e3]
    constructor
    · intro hlt
      have hn : ¬ mdG a b c mode ≤ 1152921504606846976 := by omega
      simp [mdN, mdE, hA, hc, hn]
    · intro hle
      simp [mdN, mdE, hA, hc, hle]
  · have e1 : rq (size a).toNat (size b).toNat (size c).toNat = 2305843009213693952 := by unfold rq; rw [if_neg hQ]
    rw [e1]
    have hQ2 : 1152921504606846976 < (mdQ a b c : Int) := by unfold mdQ; omega
    constructor
    · intro _
      exact md_over hA hc hQ2
    · intro hle
      split at hle <;> omega
end CM

namespace CM

theorem mul_spec {a b : Int} (ha : fits a = true) (hb : fits b = true) :
    (size a * size b ≤ 1152921504606846976 → mdN a b 1 1 = a * b ∧ mdE a b 1 1 = 0) ∧
    (1152921504606846976 < size a * size b → mdN a b 1 1 = 0 ∧ mdE a b 1 1 = 3) := by
  have hA : mdA a b 1 1 = true := by simp [mdA, ha, hb]; decide
  have h1 : size 1 = 1 := rfl
  have hR : mdR a b 1 = 0 := by simp [mdR, h1, Nat.mod_one]
  have hQ : (mdQ a b 1 : Int) = size a * size b := by
    have := size_nonneg a
    have := size_nonneg b
    simp only [mdQ, h1, Int.toNat_one, Nat.div_one, Int.natCast_mul]
    rw [Int.toNat_of_nonneg ‹_›, Int.toNat_of_nonneg ‹_›]
  have hG : mdG a b 1 1 = size a * size b := by
    unfold mdG; rw [hR, hQ]; simp [grow]
  constructor
  · intro hle
    rw [← hG] at hle
    simp only [mdN, mdE, hA, hle, if_true]
    refine ⟨?_, by simp⟩
    rw [if_neg (by omega), hG]
    unfold neg size
    by_cases s1 : a < 0 <;> by_cases s2 : b < 0 <;> simp [s1, s2, Int.neg_mul, Int.mul_neg]
  · intro hlt
    rw [← hG] at hlt
    have hn : ¬ mdG a b 1 1 ≤ 1152921504606846976 := by omega
    simp [mdN, mdE, hA, hn]

theorem mul_arg {a b : Int} (h : fits a = false ∨ fits b = false) : mdN a b 1 1 = 0 ∧ mdE a b 1 1 = 2 := by
  have hA : mdA a b 1 1 = false := by rcases h with h | h <;> simp [mdA, h]
  simp [mdN, mdE, hA]

theorem over_iff {a b : Int} (ha : a ≠ 0) : 1152921504606846976 / size a < size b ↔ 1152921504606846976 < size a * size b := by
  rw [Int.ediv_lt_iff_lt_mul (size_pos ha), Int.mul_comm]

theorem size_mul (a b : Int) : size a * size b = size (a * b) := by
  unfold size
  by_cases s1 : a < 0 <;> by_cases s2 : b < 0
  · have : 0 < a * b := Int.mul_pos_of_neg_of_neg s1 s2
    simp only [s1, s2, if_true]; rw [if_neg (by omega), Int.neg_mul_neg]
  · rcases Int.lt_or_eq_of_le (Int.not_lt.1 s2) with h | h
    · have : a * b < 0 := Int.mul_neg_of_neg_of_pos s1 h
      simp only [s1, s2, this, if_true, if_false]; rw [Int.neg_mul]
    · subst h; simp
  · rcases Int.lt_or_eq_of_le (Int.not_lt.1 s1) with h | h
    · have : a * b < 0 := Int.mul_neg_of_pos_of_neg h s2
      simp only [s1, s2, this, if_true, if_false]; rw [Int.mul_neg]
    · subst h; simp
  · have : 0 ≤ a * b := Int.mul_nonneg (by omega) (by omega)
    simp only [s1, s2, if_false]; rw [if_neg (by omega)]

theorem mul_in {a b : Int} (h : size a * size b ≤ 1152921504606846976) : -1152921504606846976 ≤ a * b ∧ a * b ≤ 1152921504606846976 := by
  rw [size_mul] at h
  unfold size at h
  split at h <;> omega
end CM

/- Plain mathematics of the laws of layer 1. -/
namespace CM

theorem add_back {a b : Int} (h : addE a b = 0) : subN (addN a b) b = a ∧ subE (addN a b) b = 0 := by
  unfold addE at h
  cases ha : fits a <;> cases hb : fits b <;> simp [ha, hb] at h
  cases hc : fits (a + b)
  · simp [fitE, hc] at h
  · have e : addN a b = a + b := by simp [addN, fitN, ha, hb, hc]
    have e2 : a + b - b = a := by omega
    rw [e]
    simp [subN, subE, fitN, fitE, hb, hc, e2, ha]

theorem md_back {a b mode : Int} (ha : fits a = true) (hb : fits b = true) (h0 : b ≠ 0) (h1 : 1 ≤ mode) (h5 : mode ≤ 5) : mdN a b b mode = a ∧ mdE a b b mode = 0 := by
  have hA : mdA a b b mode = true := by simp [mdA, ha, hb, h1, h5]
  have sp := size_pos h0
  have hQ : mdQ a b b = (size a).toNat := by unfold mdQ; exact Nat.mul_div_cancel _ (by omega)
  have hR : mdR a b b = 0 := by unfold mdR; exact Nat.mul_mod_left _ _
  have hG : mdG a b b mode = size a := by
    have := size_nonneg a
    unfold mdG; rw [hQ, hR]; simp [grow]; omega
  obtain ⟨a1, a2⟩ := fits_true.1 ha
  have hle := size_le a1 a2
  simp only [mdN, mdE, hA, if_true, h0, if_false, hG, hle]
  refine ⟨?_, trivial⟩
  unfold neg size
  by_cases s1 : a < 0 <;> by_cases s2 : b < 0 <;> simp [s1, s2]

theorem fits_one : fits 1 = true := by decide

/-- the error of one mode says it of all, where even Down fails -/
theorem md_down_err {a b c mode : Int} (h : mdE a b c 1 ≠ 0) (h1 : 1 ≤ mode) (h5 : mode ≤ 5) : mdE a b c mode ≠ 0 := by
  cases hA : mdA a b c 1
  · have hA' : mdA a b c mode = false := by
      unfold mdA at hA ⊢
      simp [h1, h5] at hA ⊢
      exact hA
    simp [mdE, hA']
  · have hA' : mdA a b c mode = true := by
      unfold mdA at hA ⊢
      simp [h1, h5] at hA ⊢
      exact hA
    by_cases hc : c = 0
    · subst hc; simp [mdE, hA']
    · have hd : mdG a b c 1 = mdQ a b c := by unfold mdG; simp [grow]
      have hQ : 1152921504606846976 < (mdQ a b c : Int) := by
        simp [mdE, hA, hc, hd] at h
        omega
      rw [(md_over hA' hc hQ).2]; decide

/-- how the five modes lie, where all answer -/
def Lie (low high down up half : Int) : Prop :=
  ∃ q : Int, (0 ≤ q ∧ q ≤ 1152921504606846976) ∧
    ((low = q ∧ high = q ∧ down = q ∧ up = q ∧ half = q) ∨
     (low = q ∧ high = q + 1 ∧ down = q ∧ up = q + 1 ∧ (half = q ∨ half = q + 1)) ∨
     (low = -q ∧ high = -q ∧ down = -q ∧ up = -q ∧ half = -q) ∨
     (low = -(q + 1) ∧ high = -q ∧ down = -q ∧ up = -(q + 1) ∧ (half = -q ∨ half = -(q + 1))))

theorem md_ok {a b c mode : Int} (h : mdE a b c mode = 0) :
    mdA a b c mode = true ∧ c ≠ 0 ∧ mdG a b c mode ≤ 1152921504606846976 ∧ mdN a b c mode = if neg a b c then -mdG a b c mode else mdG a b c mode := by
  cases hA : mdA a b c mode
  · simp [mdE, hA] at h
  · by_cases hc : c = 0
    · subst hc; simp [mdE, hA] at h
    · by_cases hg : mdG a b c mode ≤ 1152921504606846976
      · exact ⟨rfl, hc, hg, by simp [mdN, hA, hc, hg]⟩
      · simp [mdE, hA, hc, hg] at h

theorem md_lie {a b c : Int} (e1 : mdE a b c 1 = 0) (e2 : mdE a b c 2 = 0) (e3 : mdE a b c 3 = 0) (e4 : mdE a b c 4 = 0) (e5 : mdE a b c 5 = 0) :
    Lie (mdN a b c 3) (mdN a b c 4) (mdN a b c 1) (mdN a b c 2) (mdN a b c 5) := by
  obtain ⟨_, hc, g1, n1⟩ := md_ok e1
  obtain ⟨_, _, g2, n2⟩ := md_ok e2
  obtain ⟨_, _, g3, n3⟩ := md_ok e3
  obtain ⟨_, _, g4, n4⟩ := md_ok e4
  obtain ⟨_, _, g5, n5⟩ := md_ok e5
  have q0 := mdQ_nonneg a b c
  refine ⟨mdQ a b c, ⟨q0, ?_⟩, ?_⟩
  · unfold mdG at g1; split at g1 <;> omega
  rw [n1, n2, n3, n4, n5]
  by_cases hr : (mdR a b c : Int) = 0
  · have hz : ∀ m, mdG a b c m = mdQ a b c := fun m => by unfold mdG grow; simp [hr]
    simp only [hz]
    cases neg a b c <;> simp
  · have z1 : mdG a b c 1 = mdQ a b c := by unfold mdG grow; simp
    have z2 : mdG a b c 2 = mdQ a b c + 1 := by unfold mdG grow; rw [if_neg hr]; simp
    cases hn : neg a b c
    · have z3 : mdG a b c 3 = mdQ a b c := by unfold mdG grow; rw [if_neg hr]; simp [hn]
      have z4 : mdG a b c 4 = mdQ a b c + 1 := by unfold mdG grow; rw [if_neg hr]; simp [hn]
      have z5 : mdG a b c 5 = mdQ a b c ∨ mdG a b c 5 = mdQ a b c + 1 := by unfold mdG; split <;> omega
      rw [z1, z2, z3, z4]
      simp only [Bool.false_eq_true, if_false]
      exact .inr (.inl ⟨trivial, trivial, trivial, trivial, z5⟩)
    · have z3 : mdG a b c 3 = mdQ a b c + 1 := by unfold mdG grow; rw [if_neg hr]; simp [hn]
      have z4 : mdG a b c 4 = mdQ a b c := by unfold mdG grow; rw [if_neg hr]; simp [hn]
      have z5 : mdG a b c 5 = mdQ a b c ∨ mdG a b c 5 = mdQ a b c + 1 := by unfold mdG; split <;> omega
      rw [z1, z2, z3, z4]
      simp only [if_true]
      refine .inr (.inr (.inr ⟨trivial, trivial, trivial, trivial, ?_⟩))
      rcases z5 with z | z <;> rw [z]
      · exact .inl rfl
      · exact .inr rfl
end CM

/- What conversions by two rates do: there and back; more is no less. -/
namespace CM
set_option linter.unusedVariables false

/-- both rates above nought: the sign is the amount's -/
theorem neg_of {a b c : Int} (hb : 0 < b) (hc : 0 < c) : neg a b c = decide (a < 0) := by
  unfold neg
  rw [decide_eq_false (show ¬ b < 0 by omega), decide_eq_false (show ¬ c < 0 by omega)]
  cases decide (a < 0) <;> rfl
theorem size_of {b : Int} (hb : 0 < b) : size b = b := by unfold size; rw [if_neg (by omega)]
/-- an amount's errors: of what may be asked, only that it is too great -/
theorem md_err {a b c mode : Int} (ha : fits a = true) (hb : fits b = true) (hc : fits c = true) (h0 : c ≠ 0) (h1 : 1 ≤ mode) (h5 : mode ≤ 5) : mdE a b c mode ≠ 0 → mdN a b c mode = 0 ∧ mdE a b c mode = 3 := by
  have hA : mdA a b c mode = true := by simp [mdA, ha, hb, hc, h1, h5]
  intro h
  by_cases hg : mdG a b c mode ≤ 1152921504606846976
  · exfalso; apply h; simp [mdE, hA, h0, hg]
  · simp [mdN, mdE, hA, h0, hg]
theorem down_q (a b c : Int) : mdG a b c 1 = mdQ a b c := by unfold mdG; simp [grow]
/-- there and back, by Down -/
theorem there_back {n f t : Int} (hn : fits n = true) (hf : 0 < f) (ht : 0 < t) (ff : fits f = true) (ft : fits t = true) (he : mdE n f t 1 = 0) :
    mdE (mdN n f t 1) t f 1 = 0 ∧
      ((n < 0 → mdN (mdN n f t 1) t f 1 ≤ 0 ∧ n ≤ mdN (mdN n f t 1) t f 1 ∧ mdN n f t 1 ≤ 0) ∧ (0 ≤ n → 0 ≤ mdN (mdN n f t 1) t f 1 ∧ mdN (mdN n f t 1) t f 1 ≤ n ∧ 0 ≤ mdN n f t 1)) := by
  obtain ⟨_, _, hg, hm⟩ := md_ok he
  rw [down_q] at hg hm
  rw [neg_of hf ht] at hm
  have q0 := mdQ_nonneg n f t
  -- sizes
  have hs : size (mdN n f t 1) = mdQ n f t := by
    rw [hm]
    by_cases h : n < 0
    · simp only [h, decide_true, if_true]; unfold size; split <;> omega
    · simp only [h, decide_false, Bool.false_eq_true, if_false]; unfold size; split <;> omega
  have hmf : fits (mdN n f t 1) = true := by
    rw [fits_true, hm]
    split <;> omega
  have hle : mdQ n f t * t.toNat ≤ (size n).toNat * f.toNat := by
    unfold mdQ
    rw [size_of hf, size_of ht]
    exact Nat.div_mul_le_self _ _
  have hq2 : mdQ (mdN n f t 1) t f ≤ (size n).toNat := by
    have e : mdQ (mdN n f t 1) t f = (mdQ n f t) * t.toNat / f.toNat := by
      show (size (mdN n f t 1)).toNat * (size t).toNat / (size f).toNat = _
      rw [hs, size_of hf, size_of ht]; rfl
    rw [e]
    have h1 : mdQ n f t * t.toNat / f.toNat ≤ (size n).toNat * f.toNat / f.toNat := Nat.div_le_div_right hle
    rw [Nat.mul_div_cancel _ (by omega)] at h1
    exact h1
  obtain ⟨n1, n2⟩ := fits_true.1 hn
  have hsn := size_le n1 n2
  have hsn0 := size_nonneg n
  have hA2 : mdA (mdN n f t 1) t f 1 = true := by simp [mdA, hmf, ff, ft]
  have hg2 : mdG (mdN n f t 1) t f 1 ≤ 1152921504606846976 := by rw [down_q]; omega
  have e2 : mdE (mdN n f t 1) t f 1 = 0 := by simp [mdE, hA2, show f ≠ 0 by omega, hg2]
  obtain ⟨_, _, _, hb⟩ := md_ok e2
  rw [down_q, neg_of ht hf] at hb
  have q2 := mdQ_nonneg (mdN n f t 1) t f
  generalize mdQ (mdN n f t 1) t f = Q2 at *
  generalize mdQ n f t = Q at *
  have hz : n < 0 → size n = -n := fun h => by unfold size; rw [if_pos h]
  have hz2 : 0 ≤ n → size n = n := fun h => by unfold size; rw [if_neg (by omega)]
  refine ⟨e2, fun h => ?_, fun h => ?_⟩
  · rw [hb]
    simp only [h, decide_true, if_true] at hm
    have := hz h
    rw [hm]
    by_cases c : (-(Q : Int)) < 0
    · simp only [c, decide_true, if_true]; omega
    · have hQ : Q = 0 := by omega
      subst hQ
      have : mdN n f t 1 = 0 := by rw [hm]; rfl
      simp only [c, decide_false, Bool.false_eq_true, if_false]
      -- nought turned back is nought
      have hbz : size (mdN n f t 1) = 0 := by rw [this]; rfl
      rw [this] at hb
      have hq0 : mdN 0 t f 1 = Q2 := by rw [hb]; rfl
      have hq1 : mdQ 0 t f = 0 := by unfold mdQ; simp [size]
      have := (md_ok (a := 0) (b := t) (c := f) (mode := 1) (by rw [‹mdN n f t 1 = 0›] at e2; exact e2)).2.2.2
      rw [down_q, hq1, neg_of ht hf] at this
      have h00 : mdN 0 t f 1 = 0 := by rw [this]; rfl
      omega
  · rw [hb]
    have hnn : ¬ n < 0 := by omega
    simp only [hnn, decide_false, Bool.false_eq_true, if_false] at hm
    have := hz2 h
    rw [hm]
    have c : ¬ ((Q : Int) < 0) := by omega
    simp only [c, decide_false, Bool.false_eq_true, if_false]
    omega

theorem grow_mono {q r r' c mode : Int} {n : Bool} (h0 : 0 ≤ r) (h : r ≤ r') (hg : grow q r c mode n = true) : grow q r' c mode n = true := by
  unfold grow at hg ⊢
  by_cases hr : r = 0
  · rw [if_pos hr] at hg; cases hg
  · rw [if_neg hr] at hg
    rw [if_neg (by omega)]
    by_cases h2 : mode = 2
    · rw [if_pos h2]
    · rw [if_neg h2] at hg ⊢
      by_cases h3 : mode = 3
      · rw [if_pos h3] at hg ⊢; exact hg
      · rw [if_neg h3] at hg ⊢
        by_cases h4 : mode = 4
        · rw [if_pos h4] at hg ⊢; exact hg
        · rw [if_neg h4] at hg ⊢
          by_cases h5 : mode = 5
          · rw [if_pos h5] at hg ⊢
            simp only [Bool.or_eq_true, Bool.and_eq_true, decide_eq_true_eq] at hg ⊢
            rcases hg with g | ⟨g1, g2⟩
            · left; omega
            · by_cases e : 2 * r' = c
              · right; exact ⟨e, g2⟩
              · left; omega
          · rw [if_neg h5] at hg; cases hg
/-- of two amounts of one sign the greater one's quotient is not less -/
theorem g_mono {a a' b c mode : Int} (hb : 0 < b) (hc : 0 < c) (hs : size a ≤ size a') (hn : neg a b c = neg a' b c) : mdG a b c mode ≤ mdG a' b c mode := by
  have h0 := size_nonneg a
  have hN : (size a).toNat * (size b).toNat ≤ (size a').toNat * (size b).toNat := Nat.mul_le_mul_right _ (by omega)
  have hcn : 0 < (size c).toNat := by rw [size_of hc]; omega
  have hq : mdQ a b c ≤ mdQ a' b c := Nat.div_le_div_right hN
  have e1 : (size c).toNat * mdQ a b c + mdR a b c = (size a).toNat * (size b).toNat := Nat.div_add_mod _ _
  have e2 : (size c).toNat * mdQ a' b c + mdR a' b c = (size a').toNat * (size b).toNat := Nat.div_add_mod _ _
  unfold mdG
  rw [← hn]
  rcases Nat.lt_or_ge (mdQ a b c) (mdQ a' b c) with g | g
  · split <;> split <;> omega
  · have he : mdQ a b c = mdQ a' b c := by omega
    rw [← he] at e2 ⊢
    have hr : (mdR a b c : Int) ≤ mdR a' b c := by omega
    by_cases hg : grow (mdQ a b c) (mdR a b c) (size c) mode (neg a b c) = true
    · rw [if_pos hg, if_pos (grow_mono (Int.natCast_nonneg _) hr hg)]; exact Int.le_refl _
    · rw [if_neg hg]; split <;> omega
theorem g_nonneg (a b c mode : Int) : 0 ≤ mdG a b c mode := by
  have := mdQ_nonneg a b c
  unfold mdG; split <;> omega
/-- more is turned into no less -/
theorem md_rises {a a' b c mode : Int} (hb : 0 < b) (hc : 0 < c) (h : a ≤ a') (e : mdE a b c mode = 0) (e' : mdE a' b c mode = 0) : mdN a b c mode ≤ mdN a' b c mode := by
  obtain ⟨_, _, _, h1⟩ := md_ok e
  obtain ⟨_, _, _, h2⟩ := md_ok e'
  rw [h1, h2]
  have g1 := g_nonneg a b c mode
  have g2 := g_nonneg a' b c mode
  have n1 := neg_of (a := a) hb hc
  have n2 := neg_of (a := a') hb hc
  by_cases s1 : a < 0
  · by_cases s2 : a' < 0
    · have hg := g_mono (a := a') (a' := a) (b := b) (c := c) (mode := mode) hb hc (by unfold size; rw [if_pos s1, if_pos s2]; omega) (by rw [n1, n2]; simp [s1, s2])
      rw [n1, n2]
      simp only [s1, s2, decide_true, if_true]
      omega
    · rw [n1, n2]
      simp only [s1, s2, decide_true, decide_false, if_true, Bool.false_eq_true, if_false]
      omega
  · have s2 : ¬ a' < 0 := by omega
    have hg := g_mono (a := a) (a' := a') (b := b) (c := c) (mode := mode) hb hc (by unfold size; rw [if_neg s1, if_neg s2]; omega) (by rw [n1, n2]; simp [s1, s2])
    rw [n1, n2]
    simp only [s1, s2, decide_false, Bool.false_eq_true, if_false]
    omega
end CM

/- Numbers and money as texts: read as they were written, written as they were read. -/
namespace WM

/-- how a number is written -/
def textL (n : Int) : List UInt8 := if n < 0 then 45 :: dec n.natAbs else dec n.natAbs
/-- money without its sign -/
def money (a : Nat) : List UInt8 := dec (a / 100) ++ [46, UInt8.ofNat (48 + a / 10 % 10), UInt8.ofNat (48 + a % 10)]
def moneyL (n : Int) : List UInt8 := if n < 0 then 45 :: money n.natAbs else money n.natAbs
/-- is it money, without a sign -/
def cok (m : List UInt8) : Bool := decide (4 ≤ m.length) && (m.getD (m.length - 3) 0 == 46) && digits (m.take (m.length - 3)) && (m.drop (m.length - 2)).all dig
def cval (m : List UInt8) : Int := val (m.take (m.length - 3) ++ m.drop (m.length - 2))
def centsE (l : List UInt8) : Int := if cok (cut l) = true then signE (cval (cut l)) (below l) else 5
def centsN (l : List UInt8) : Int := if cok (cut l) = true then signN (cval (cut l)) (below l) else 0

theorem digits_all {l : List UInt8} (h : digits l = true) : l.all dig = true := by unfold digits at h; simp only [Bool.and_eq_true] at h; exact h.1
theorem digits_ne {l : List UInt8} (h : digits l = true) : 1 ≤ l.length := by
  cases l with
  | nil => simp [digits] at h
  | cons a t => simp
theorem dig_ne45 {c : UInt8} (h : dig c = true) : c ≠ 45 := by
  rintro rfl
  exact absurd h (by decide)
theorem head_ne45 {l : List UInt8} (h : l.all dig = true) (hl : 1 ≤ l.length) (t : List UInt8) : ((l ++ t).headD 0 == 45) = false := by
  cases l with
  | nil => simp at hl
  | cons a l =>
    rw [List.all_cons, Bool.and_eq_true] at h
    simpa using dig_ne45 h.1
theorem cut_plain {l : List UInt8} (h : (l.headD 0 == 45) = false) : cut l = l ∧ below l = false := by
  unfold cut below
  rw [h]; simp
theorem cut_minus (l : List UInt8) : cut (45 :: l) = l ∧ below (45 :: l) = true := by simp [cut, below]
theorem of_below {l : List UInt8} (h : below l = true) : l = 45 :: cut l := by
  unfold below at h
  cases l with
  | nil => simp at h
  | cons a t =>
    have : a = 45 := by simpa using h
    rw [this, (cut_minus t).1]
theorem of_plain {l : List UInt8} (h : below l = false) : cut l = l := (cut_plain (by unfold below at h; exact h)).1
theorem cut_text (n : Int) : cut (textL n) = dec n.natAbs ∧ below (textL n) = decide (n < 0) := by
  unfold textL
  by_cases h : n < 0
  · rw [if_pos h, decide_eq_true h]; exact cut_minus _
  · rw [if_neg h, decide_eq_false h]
    have e := head_ne45 (dec_dig n.natAbs) (dec_length _) []
    rw [List.append_nil] at e
    exact cut_plain e
theorem money_head (a : Nat) : ((money a).headD 0 == 45) = false := head_ne45 (dec_dig _) (dec_length _) _
theorem cut_money (n : Int) : cut (moneyL n) = money n.natAbs ∧ below (moneyL n) = decide (n < 0) := by
  unfold moneyL
  by_cases h : n < 0
  · rw [if_pos h, decide_eq_true h]; exact cut_minus _
  · rw [if_neg h, decide_eq_false h]; exact cut_plain (money_head _)

theorem sign_abs (n : Int) : signE n.natAbs (decide (n < 0)) = (if n.natAbs ≤ most.natAbs then 0 else 3) ∧ (n.natAbs ≤ most.natAbs → signN n.natAbs (decide (n < 0)) = n) := by
  unfold signE signN most
  by_cases h : n < 0
  · have e : ¬ ((n.natAbs : Int) = 0) := by omega
    simp only [h, decide_true, e, and_false, if_false, if_true]
    constructor
    · split <;> split <;> omega
    · intro; split <;> omega
  · simp only [h, decide_false, Bool.false_eq_true, false_and, if_false]
    constructor
    · split <;> split <;> omega
    · intro; split <;> omega
theorem int_text (n : Int) : intE (textL n) = (if n.natAbs ≤ most.natAbs then 0 else 3) ∧ (n.natAbs ≤ most.natAbs → intN (textL n) = n) := by
  unfold intE intN
  obtain ⟨e1, e2⟩ := cut_text n
  rw [e1, e2, dec_val, dec_digits]
  simpa using sign_abs n

/-- what a number with its sign tells -/
theorem sign_ok {v : Int} {b : Bool} (h0 : 0 ≤ v) (h : signE v b = 0) : v ≤ most ∧ (b = true → 0 < v) ∧ signN v b = (if b = true then -v else v) := by
  unfold signE at h
  unfold signN
  split at h
  · omega
  · rename_i c1
    split at h
    · omega
    · rename_i c2
      refine ⟨by omega, fun hb => ?_, by rw [if_neg c1, if_neg c2]⟩
      rcases Int.lt_or_eq_of_le h0 with q | q
      · exact q
      · exact absurd ⟨hb, q.symm⟩ c1
theorem text_int {l : List UInt8} (h : intE l = 0) : textL (intN l) = l := by
  unfold intE at h
  unfold intN
  split at h
  · rename_i hd
    rw [if_pos hd]
    have hv := val_nonneg (digits_all hd)
    obtain ⟨_, h1, h2⟩ := sign_ok hv h
    rw [h2]
    have hw := dec_of hd
    cases hb : below l with
    | true =>
      have h1 := h1 hb
      rw [if_pos rfl]
      unfold textL
      rw [if_pos (by omega), show (-val (cut l)).natAbs = (val (cut l)).toNat by omega, hw]
      exact (of_below hb).symm
    | false =>
      rw [if_neg (by simp)]
      unfold textL
      rw [if_neg (by omega), show (val (cut l)).natAbs = (val (cut l)).toNat by omega, hw]
      exact of_plain hb
  · omega

theorem cok_parts (p : List UInt8) (c x y : UInt8) : cok (p ++ [c, x, y]) = (decide (1 ≤ p.length) && (c == 46) && digits p && (dig x && dig y)) ∧ cval (p ++ [c, x, y]) = 100 * val p + 10 * dval x + dval y := by
  have e1 : (p ++ [c, x, y]).length - 3 = p.length := by simp
  have e2 : (p ++ [c, x, y]).length - 2 = p.length + 1 := by simp
  have e3 : (p ++ [c, x, y]).take p.length = p := by simp
  have e4 : (p ++ [c, x, y]).drop (p.length + 1) = [x, y] := by
    rw [List.drop_append]; simp
  have e5 : (p ++ [c, x, y]).getD p.length 0 = c := by simp [List.getD]
  have e6 : decide (4 ≤ (p ++ [c, x, y]).length) = decide (1 ≤ p.length) := by
    rw [decide_eq_decide]; simp
  constructor
  · unfold cok
    rw [e6, e1, e2, e3, e4, e5]
    simp
  · unfold cval
    rw [e1, e2, e3, e4, show p ++ [x, y] = (p ++ [x]) ++ [y] by simp, val_snoc, val_snoc]
    omega
theorem split3 {m : List UInt8} (h : 4 ≤ m.length) : ∃ p c x y, m = p ++ [c, x, y] := by
  have h1 : (m.drop (m.length - 3)).length = 3 := by simp; omega
  obtain ⟨c, x, y, e⟩ : ∃ c x y, m.drop (m.length - 3) = [c, x, y] := by
    match hm : m.drop (m.length - 3), h1 with
    | [c, x, y], _ => exact ⟨c, x, y, rfl⟩
  exact ⟨m.take (m.length - 3), c, x, y, by rw [← e, List.take_append_drop]⟩
theorem cok_money (a : Nat) : cok (money a) = true ∧ cval (money a) = a := by
  unfold money
  obtain ⟨h1, h2⟩ := cok_parts (dec (a / 100)) 46 (UInt8.ofNat (48 + a / 10 % 10)) (UInt8.ofNat (48 + a % 10))
  rw [h1, h2, dec_digits, dec_val, dval_of _ (by omega), dval_of _ (by omega), dig_of _ (by omega), dig_of _ (by omega), decide_eq_true (dec_length _)]
  exact ⟨by simp, by omega⟩
theorem of_dval {c : UInt8} (h : dig c = true) : UInt8.ofNat (48 + (dval c).toNat) = c := by
  have := dig_true.1 h
  have : 48 + (dval c).toNat = c.toNat := by unfold dval; omega
  rw [this]; simp
theorem cok_len {m : List UInt8} (h : cok m = true) : 4 ≤ m.length := by
  unfold cok at h; simp only [Bool.and_eq_true, decide_eq_true_eq] at h; exact h.1.1.1
theorem money_of {m : List UInt8} (h : cok m = true) : 0 ≤ cval m ∧ money (cval m).toNat = m := by
  obtain ⟨p, c, x, y, rfl⟩ := split3 (cok_len h)
  obtain ⟨h1, h2⟩ := cok_parts p c x y
  rw [h1] at h
  simp only [Bool.and_eq_true, decide_eq_true_eq, beq_iff_eq] at h
  obtain ⟨⟨⟨hl, rfl⟩, hp⟩, hx, hy⟩ := h
  have v0 := val_nonneg (digits_all hp)
  have x0 := dval_range hx
  have y0 := dval_range hy
  rw [h2]
  refine ⟨by omega, ?_⟩
  unfold money
  rw [show (100 * val p + 10 * dval x + dval y).toNat / 100 = (val p).toNat by omega, show (100 * val p + 10 * dval x + dval y).toNat / 10 % 10 = (dval x).toNat by omega,
    show (100 * val p + 10 * dval x + dval y).toNat % 10 = (dval y).toNat by omega, dec_of hp, of_dval hx, of_dval hy]
theorem cents_money (n : Int) : centsE (moneyL n) = (if n.natAbs ≤ most.natAbs then 0 else 3) ∧ (n.natAbs ≤ most.natAbs → centsN (moneyL n) = n) := by
  unfold centsE centsN
  obtain ⟨e1, e2⟩ := cut_money n
  obtain ⟨e3, e4⟩ := cok_money n.natAbs
  rw [e1, e2, e3, e4]
  simpa using sign_abs n
theorem money_cents {l : List UInt8} (h : centsE l = 0) : moneyL (centsN l) = l := by
  unfold centsE at h
  unfold centsN
  split at h
  · rename_i hd
    rw [if_pos hd]
    obtain ⟨hv, hw⟩ := money_of hd
    obtain ⟨_, h1, h2⟩ := sign_ok hv h
    rw [h2]
    cases hb : below l with
    | true =>
      have h1 := h1 hb
      rw [if_pos rfl]
      unfold moneyL
      rw [if_pos (by omega), show (-cval (cut l)).natAbs = (cval (cut l)).toNat by omega, hw]
      exact (of_below hb).symm
    | false =>
      rw [if_neg (by simp)]
      unfold moneyL
      rw [if_neg (by omega), show (cval (cut l)).natAbs = (cval (cut l)).toNat by omega, hw]
      exact of_plain hb
  · omega
/-- no text is a number and money -/
theorem not_both (l : List UInt8) : intE l ≠ 0 ∨ centsE l ≠ 0 := by
  by_cases h1 : intE l = 0
  · right
    intro h2
    have hd : digits (cut l) = true := by
      unfold intE at h1; split at h1
      · assumption
      · omega
    have hc : cok (cut l) = true := by
      unfold centsE at h2; split at h2
      · assumption
      · omega
    obtain ⟨p, c, x, y, e⟩ := split3 (cok_len hc)
    rw [e] at hd hc
    rw [(cok_parts p c x y).1] at hc
    simp only [Bool.and_eq_true, decide_eq_true_eq, beq_iff_eq] at hc
    have := List.all_eq_true.1 (digits_all hd) c (by simp)
    rw [hc.1.1.2] at this
    exact absurd this (by decide)
  · exact Or.inl h1
end WM

/- Lines, fields and how they are put together. -/
namespace WM

/-- one byte more: what is complete, and what is under way -/
def step (b : UInt8) (s : List (List UInt8) × List UInt8) (c : UInt8) : List (List UInt8) × List UInt8 := if c = b then (s.1 ++ [s.2], []) else (s.1, s.2 ++ [c])
def run (b : UInt8) (l : List UInt8) : List (List UInt8) × List UInt8 := l.foldl (step b) ([], [])
/-- all pieces, the last one too -/
def pieces (b : UInt8) (l : List UInt8) : List (List UInt8) := (run b l).1 ++ [(run b l).2]
def plain (c : UInt8) : Bool := decide (32 ≤ c.toNat) && decide (c.toNat ≤ 126)
def full (ps : List (List UInt8)) : Bool := ps.all fun p => decide (p ≠ [])
def fieldsE (l : List UInt8) : Int := if 512 < l.length then 8 else if l = [] then 0 else if (l.all plain && full (pieces 32 l)) = true then 0 else 5
def fieldsN (l : List UInt8) : List (List UInt8) := if fieldsE l = 0 ∧ l ≠ [] then pieces 32 l else []
def linesE (l : List UInt8) : Int := if 65536 < l.length then 8 else 0
def linesN (l : List UInt8) : List (List UInt8) := if 65536 < l.length then [] else if (run 10 l).2 = [] then (run 10 l).1 else pieces 10 l
def joinL : List (List UInt8) → List UInt8
  | [] => []
  | [p] => p
  | p :: q :: r => p ++ 32 :: joinL (q :: r)

theorem run_nil (b : UInt8) : run b [] = ([], []) := rfl
theorem run_snoc (b : UInt8) (l : List UInt8) (c : UInt8) : run b (l ++ [c]) = step b (run b l) c := by simp [run]
theorem run_snoc_at (b : UInt8) (l : List UInt8) : run b (l ++ [b]) = ((run b l).1 ++ [(run b l).2], []) := by rw [run_snoc]; simp [step]
theorem run_snoc_in {b c : UInt8} (h : c ≠ b) (l : List UInt8) : run b (l ++ [c]) = ((run b l).1, (run b l).2 ++ [c]) := by rw [run_snoc]; simp [step, h]
theorem joinL_snoc (ps : List (List UInt8)) (q : List UInt8) (h : ps ≠ []) : joinL (ps ++ [q]) = joinL ps ++ 32 :: q := by
  induction ps with
  | nil => exact absurd rfl h
  | cons p ps ih =>
    cases ps with
    | nil => rfl
    | cons r rs =>
      have e := ih (by simp)
      show p ++ 32 :: joinL (r :: rs ++ [q]) = (p ++ 32 :: joinL (r :: rs)) ++ 32 :: q
      rw [e]; simp
theorem joinL_one (q : List UInt8) : joinL ([] ++ [q]) = q := rfl
theorem joinL_last (ps : List (List UInt8)) (q : List UInt8) (c : UInt8) : joinL (ps ++ [q ++ [c]]) = joinL (ps ++ [q]) ++ [c] := by
  by_cases h : ps = []
  · subst h; rfl
  · rw [joinL_snoc _ _ h, joinL_snoc _ _ h]; simp
/-- a line's fields put together are the line -/
theorem join_pieces (l : List UInt8) : joinL (pieces 32 l) = l := by
  induction l using snoc_ind with
  | h0 => rfl
  | h1 l c ih =>
    unfold pieces at *
    by_cases h : c = 32
    · subst h
      rw [run_snoc_at]
      show joinL ((run 32 l).1 ++ [(run 32 l).2] ++ [[]]) = _
      rw [joinL_snoc _ _ (by simp), ih]
    · rw [run_snoc_in h]
      show joinL ((run 32 l).1 ++ [(run 32 l).2 ++ [c]]) = _
      rw [joinL_last, ih]
theorem foldl_in {b : UInt8} (q : List UInt8) (h : b ∉ q) (s : List (List UInt8) × List UInt8) : q.foldl (step b) s = (s.1, s.2 ++ q) := by
  induction q generalizing s with
  | nil => simp
  | cons c q ih =>
    have h1 : c ≠ b := fun e => h (by rw [e]; simp)
    have h2 : b ∉ q := fun e => h (by simp [e])
    rw [List.foldl_cons, ih h2]
    simp [step, h1]
/-- texts without a blank, put together, are cut into these -/
theorem pieces_join (ps : List (List UInt8)) (hne : ps ≠ []) (h : ∀ p ∈ ps, (32 : UInt8) ∉ p) : pieces 32 (joinL ps) = ps := by
  have key : ∀ n, ∀ ps : List (List UInt8), ps.length = n → ps ≠ [] → (∀ p ∈ ps, (32 : UInt8) ∉ p) → pieces 32 (joinL ps) = ps := by
    intro n
    induction n with
    | zero => intro ps h0 hne _; exact absurd (List.length_eq_zero_iff.1 h0) hne
    | succ n ih =>
      intro ps h0 hne hp
      rw [← List.dropLast_concat_getLast hne] at hp ⊢
      have hl : ps.dropLast.length = n := by rw [List.length_dropLast]; omega
      generalize ps.dropLast = qs at *
      generalize ps.getLast hne = q at *
      have hq : (32 : UInt8) ∉ q := hp q (by simp)
      by_cases hz : qs = []
      · subst hz
        unfold pieces run
        rw [joinL_one, foldl_in q hq]
        simp
      · have e := ih qs hl hz (fun p hp' => hp p (by simp [hp']))
        rw [joinL_snoc _ _ hz]
        unfold pieces run at *
        rw [List.foldl_append, List.foldl_cons]
        generalize List.foldl (step 32) ([], []) (joinL qs) = st at *
        rw [foldl_in q hq]
        simp [step, e]
  exact key _ ps rfl hne h
theorem run_no {b : UInt8} {l : List UInt8} (h : b ∉ l) : run b l = ([], l) := by unfold run; rw [foldl_in l h]; simp
theorem no_of_run {b : UInt8} (l : List UInt8) : (run b l).1 = [] → b ∉ l ∧ (run b l).2 = l := by
  induction l using snoc_ind with
  | h0 => intro _; simp [run_nil]
  | h1 l c ih =>
    by_cases h : c = b
    · subst h; rw [run_snoc_at]; intro e; simp at e
    · rw [run_snoc_in h]
      intro e
      obtain ⟨h1, h2⟩ := ih e
      refine ⟨?_, by rw [h2]⟩
      simp only [List.mem_append, List.mem_singleton]
      rintro (a | a)
      · exact h1 a
      · exact h a.symm
/-- a line that is one field -/
theorem one_field {l : List UInt8} : (fieldsE l = 0 ∧ (fieldsN l).length = 1) ↔ (l ≠ [] ∧ l.length ≤ 512 ∧ l.all plain = true ∧ (32 : UInt8) ∉ l) := by
  constructor
  · rintro ⟨h1, h2⟩
    unfold fieldsN at h2
    by_cases hl : l = []
    · rw [if_neg (by simp [hl])] at h2; simp at h2
    · rw [if_pos ⟨h1, hl⟩] at h2
      unfold fieldsE at h1
      split at h1
      · omega
      · split at h1
        · rename_i ha hb
          rw [Bool.and_eq_true] at hb
          have : (run 32 l).1 = [] := by unfold pieces at h2; simpa using h2
          exact ⟨hl, by omega, hb.1, (no_of_run l this).1⟩
        · omega
  · rintro ⟨h1, h2, h3, h4⟩
    have hp : pieces 32 l = [l] := by unfold pieces; rw [run_no h4]; rfl
    have he : fieldsE l = 0 := by
      unfold fieldsE
      rw [if_neg (by omega), if_neg h1, hp, h3]
      simp [full, h1]
    refine ⟨he, ?_⟩
    unfold fieldsN
    rw [if_pos ⟨he, h1⟩, hp]
    rfl
theorem plain_true {c : UInt8} : plain c = true ↔ 32 ≤ (c.toNat : Int) ∧ (c.toNat : Int) ≤ 126 := by unfold plain; simp; omega
theorem plain_false {c : UInt8} : plain c = false ↔ (c.toNat : Int) < 32 ∨ 126 < (c.toNat : Int) := by rw [Bool.eq_false_iff, ne_eq, plain_true]; omega
/-- a name is one field -/
theorem name_field {l : List UInt8} (h : name l = true) : fieldsE l = 0 ∧ (fieldsN l).length = 1 := by
  unfold name at h
  simp only [Bool.and_eq_true, decide_eq_true_eq] at h
  obtain ⟨⟨ha, hb⟩, hc⟩ := h
  have hr : ∀ c ∈ l, (97 ≤ (c.toNat : Int) ∧ (c.toNat : Int) ≤ 122) ∨ (48 ≤ (c.toNat : Int) ∧ (c.toNat : Int) ≤ 57) := by
    intro c hc
    have := List.all_eq_true.1 ha c hc
    simp only [Bool.or_eq_true] at this
    rcases this with h | h
    · exact Or.inl (letter_true.1 h)
    · exact Or.inr (dig_true.1 h)
  refine one_field.2 ⟨?_, by omega, ?_, ?_⟩
  · rintro rfl
    exact absurd hb (by decide)
  · rw [List.all_eq_true]
    intro c hc
    have := hr c hc
    rw [plain_true]; omega
  · intro h
    have := hr 32 h
    have e : (32 : UInt8).toNat = 32 := rfl
    omega
theorem all_join {p : UInt8 → Bool} (h32 : p 32 = true) (ps : List (List UInt8)) (h : ∀ q ∈ ps, q.all p = true) : (joinL ps).all p = true := by
  induction ps with
  | nil => rfl
  | cons q ps ih =>
    have hq := h q (by simp)
    cases ps with
    | nil => exact hq
    | cons r rs =>
      have e := ih (fun x hx => h x (by simp [hx]))
      show (q ++ 32 :: joinL (r :: rs)).all p = true
      rw [List.all_append, List.all_cons, hq, h32, e]; rfl
/-- fields put together are cut into these again -/
theorem fields_join {ps : List (List UInt8)} (h : ∀ q ∈ ps, fieldsE q = 0 ∧ (fieldsN q).length = 1) (hl : (joinL ps).length ≤ 512) : fieldsE (joinL ps) = 0 ∧ fieldsN (joinL ps) = ps := by
  by_cases hz : ps = []
  · subst hz; exact ⟨rfl, rfl⟩
  · have h' := fun q hq => one_field.1 (h q hq)
    have hp := pieces_join ps hz (fun q hq => (h' q hq).2.2.2)
    have hn : joinL ps ≠ [] := by
      intro e
      rw [e] at hp
      have : ps = [[]] := by rw [← hp]; rfl
      exact (h' [] (by rw [this]; simp)).1 rfl
    have ha := all_join (p := plain) (by decide) ps (fun q hq => (h' q hq).2.2.1)
    have hf : full ps = true := by
      unfold full
      rw [List.all_eq_true]
      intro q hq
      simpa using (h' q hq).1
    have he : fieldsE (joinL ps) = 0 := by
      unfold fieldsE
      rw [if_neg (by omega), if_neg hn, hp, ha, hf]; rfl
    refine ⟨he, ?_⟩
    unfold fieldsN
    rw [if_pos ⟨he, hn⟩, hp]
theorem join_fields {l : List UInt8} (h : fieldsE l = 0) : joinL (fieldsN l) = l := by
  unfold fieldsN
  by_cases hl : l = []
  · rw [if_neg (by simp [hl]), hl]; rfl
  · rw [if_pos ⟨h, hl⟩, join_pieces]
/-- what a loop has at place k: what is under way is the text from its last cut on -/
theorem run_take (b : UInt8) (l : List UInt8) (k : Nat) : ∃ f, f ≤ min k l.length ∧ (run b (l.take k)).2 = (l.take k).drop f := by
  induction k with
  | zero => exact ⟨0, by omega, by simp [run_nil]⟩
  | succ k ih =>
    obtain ⟨f, hf, e⟩ := ih
    by_cases hk : k < l.length
    · rw [take_snoc l k hk]
      by_cases hc : l[k] = b
      · refine ⟨k + 1, by omega, ?_⟩
        rw [hc, run_snoc_at]
        simp; omega
      · refine ⟨f, by omega, ?_⟩
        rw [run_snoc_in hc, e, List.drop_append_of_le_length (by simp; omega)]
    · refine ⟨f, by omega, ?_⟩
      rw [List.take_of_length_le (by omega)] at *
      exact e
end WM
