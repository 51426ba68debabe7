/- Layer 9's mathematics: products, their prices, roundings and values. -/
import Derived.Test.YtagmknahmkniaaaRateMath
import Derived.Test.YtagmknahmkniaaaWordMath3
import Derived.Test.YtagmknahmkniaaaOrderMath
namespace QM
structure Prod where
  name : ByteArray
  cur : Int
  mult : Int
  tick : Int
  low : Int
  high : Int
  phys : Bool
def zero : Prod := ⟨⟨#[]⟩, 0, 0, 0, 0, 0, false⟩
def within (n a b : Int) : Bool := decide (a ≤ n) && decide (n ≤ b)
theorem within_true {n a b : Int} : within n a b = true ↔ a ≤ n ∧ n ≤ b := by simp [within]
theorem within_false {n a b : Int} : within n a b = false ↔ n < a ∨ b < n := by rw [Bool.eq_false_iff, ne_eq, within_true]; omega
def nameOk (p : Prod) : Bool := WM.name p.name.data.toList
def rangeOk (p : Prod) : Bool := within p.low (-16777216) 16777216 && within p.high (-16777216) 16777216 && decide (p.low ≤ p.high) && (p.low.tmod p.tick == 0) && (p.high.tmod p.tick == 0)
def checkE (p : Prod) : Int :=
  if nameOk p = false then 10 else if within p.cur 0 7 = false then 25 else if within p.mult 1 4096 = false then 2 else if within p.tick 1 16777216 = false then 16 else if rangeOk p = false then 17 else 0
theorem check_parts {p : Prod} (h : checkE p = 0) : nameOk p = true ∧ (0 ≤ p.cur ∧ p.cur ≤ 7) ∧ (1 ≤ p.mult ∧ p.mult ≤ 4096) ∧ (1 ≤ p.tick ∧ p.tick ≤ 16777216) ∧
    (-16777216 ≤ p.low ∧ p.low ≤ p.high ∧ p.high ≤ 16777216) ∧ p.low.tmod p.tick = 0 ∧ p.high.tmod p.tick = 0 := by
  unfold checkE at h
  split at h
  · cases h
  · split at h
    · cases h
    · split at h
      · cases h
      · split at h
        · cases h
        · split at h
          · cases h
          · rename_i h1 h2 h3 h4 h5
            rw [Bool.not_eq_false] at h1 h2 h3 h4 h5
            rw [within_true] at h2 h3 h4
            unfold rangeOk at h5
            simp only [Bool.and_eq_true, within_true, decide_eq_true_eq, beq_iff_eq] at h5
            obtain ⟨⟨⟨⟨a, b⟩, c⟩, d⟩, e⟩ := h5
            exact ⟨h1, h2, h3, h4, ⟨a.1, c, b.2⟩, d, e⟩
theorem check_cases (p : Prod) : checkE p = 0 ∨ checkE p = 10 ∨ checkE p = 25 ∨ checkE p = 2 ∨ checkE p = 16 ∨ checkE p = 17 := by
  unfold checkE
  split
  · simp
  · split
    · simp
    · split
      · simp
      · split
        · simp
        · split <;> simp

/-- a list of products: product by product -/
def lessB (s t : ByteArray) : Bool := Go.Op.bytesLess s.toList t.toList
def pAt (l : List Prod) (k : Nat) : Prod := l.getD k zero
/-- the error of product k, or that its name is not behind the one ahead -/
def oneE (l : List Prod) (k : Nat) : Int := if checkE (pAt l k) ≠ 0 then checkE (pAt l k) else if 0 < k ∧ lessB (pAt l (k - 1)).name (pAt l k).name = false then 12 else 0
def uptoE (l : List Prod) : Nat → Int
  | 0 => 0
  | k + 1 => if uptoE l k = 0 then oneE l k else uptoE l k
def allE (l : List Prod) : Int := if 32 < l.length then 8 else uptoE l l.length
theorem upto_stay {l : List Prod} {k : Nat} (h : uptoE l k ≠ 0) : ∀ m, uptoE l (k + m) = uptoE l k := by
  intro m
  induction m with
  | zero => rfl
  | succ m ih => rw [← Nat.add_assoc, uptoE, ih, if_neg h]
theorem all_stop {l : List Prod} {k : Nat} (hl : ¬ 32 < l.length) (hk : k < l.length) (h : uptoE l k = 0) (h2 : oneE l k ≠ 0) : allE l = oneE l k := by
  have e : uptoE l (k + 1) = oneE l k := by rw [uptoE, if_pos h]
  unfold allE
  rw [if_neg hl]
  have := @upto_stay l (k + 1) (by rw [e]; exact h2) (l.length - (k + 1))
  rw [show k + 1 + (l.length - (k + 1)) = l.length by omega] at this
  rw [this, e]
theorem upto_step {l : List Prod} {k : Nat} (h : uptoE l k = 0) (h2 : oneE l k = 0) : uptoE l (k + 1) = 0 := by rw [uptoE, if_pos h]; exact h2
theorem upto_back {l : List Prod} {n : Nat} (h : uptoE l n = 0) : ∀ k, k < n → oneE l k = 0 := by
  induction n with
  | zero => intro k hk; omega
  | succ n ih =>
    intro k hk
    rw [uptoE] at h
    by_cases hn : uptoE l n = 0
    · rw [if_pos hn] at h
      rcases Nat.lt_or_ge k n with g | g
      · exact ih hn k g
      · obtain rfl : k = n := by omega
        exact h
    · rw [if_neg hn] at h; exact absurd h hn
theorem all_ok {l : List Prod} (h : allE l = 0) : l.length ≤ 32 ∧ ∀ k, k < l.length → checkE (pAt l k) = 0 := by
  unfold allE at h
  split at h
  · cases h
  · refine ⟨by omega, fun k hk => ?_⟩
    have := upto_back h k hk
    unfold oneE at this
    by_cases hc : checkE (pAt l k) = 0
    · exact hc
    · rw [if_pos hc] at this; exact absurd this hc

def priceE (p : Prod) (x : Int) : Int := if checkE p ≠ 0 then checkE p else if within x p.low p.high = false then 17 else if x.tmod p.tick ≠ 0 then 16 else 0
def roundE (p : Prod) (x mode : Int) : Int := if checkE p ≠ 0 then checkE p else if within x (-16777216) 16777216 = false then 17 else if within mode 1 5 = false then 2 else 0
def roundN (p : Prod) (x mode : Int) : Int := if roundE p x mode = 0 then CM.clamp (CM.mdN x 1 p.tick mode * p.tick) p.low p.high else 0
def valueE (p : Prod) (x q : Int) : Int := if checkE p ≠ 0 then checkE p else if within x (-33554432) 33554432 = false then 17 else if within q (-1048576) 1048576 = false then 18 else 0
def valueN (p : Prod) (x q : Int) : Int := if valueE p x q = 0 then x * p.mult * q else 0

theorem price_zero {p : Prod} {x : Int} : priceE p x = 0 ↔ checkE p = 0 ∧ (p.low ≤ x ∧ x ≤ p.high) ∧ x.tmod p.tick = 0 := by
  unfold priceE
  constructor
  · intro h
    split at h
    · rename_i h1; exact absurd h h1
    · rename_i h1
      split at h
      · cases h
      · split at h
        · cases h
        · rename_i h2 h3
          exact ⟨Classical.not_not.1 h1, within_true.1 (by simpa using h2), Classical.not_not.1 h3⟩
  · rintro ⟨h1, h2, h3⟩
    rw [if_neg (by simp [h1]), if_neg (by rw [within_true.2 h2]; simp), if_neg (by simp [h3])]
theorem round_zero {p : Prod} {x mode : Int} : roundE p x mode = 0 ↔ checkE p = 0 ∧ (-16777216 ≤ x ∧ x ≤ 16777216) ∧ (1 ≤ mode ∧ mode ≤ 5) := by
  unfold roundE
  constructor
  · intro h
    split at h
    · rename_i h1; exact absurd h h1
    · rename_i h1
      split at h
      · cases h
      · split at h
        · cases h
        · rename_i h2 h3
          exact ⟨Classical.not_not.1 h1, within_true.1 (by simpa using h2), within_true.1 (by simpa using h3)⟩
  · rintro ⟨h1, h2, h3⟩
    rw [if_neg (by simp [h1]), if_neg (by rw [within_true.2 h2]; simp), if_neg (by rw [within_true.2 h3]; simp)]
theorem value_zero {p : Prod} {x q : Int} : valueE p x q = 0 ↔ checkE p = 0 ∧ (-33554432 ≤ x ∧ x ≤ 33554432) ∧ (-1048576 ≤ q ∧ q ≤ 1048576) := by
  unfold valueE
  constructor
  · intro h
    split at h
    · rename_i h1; exact absurd h h1
    · rename_i h1
      split at h
      · cases h
      · split at h
        · cases h
        · rename_i h2 h3
          exact ⟨Classical.not_not.1 h1, within_true.1 (by simpa using h2), within_true.1 (by simpa using h3)⟩
  · rintro ⟨h1, h2, h3⟩
    rw [if_neg (by simp [h1]), if_neg (by rw [within_true.2 h2]; simp), if_neg (by rw [within_true.2 h3]; simp)]

theorem fits_of {n : Int} (h1 : -33554432 ≤ n) (h2 : n ≤ 33554432) : CM.fits n = true := by rw [CM.fits_true]; omega
/-- an amount divided by what divides it -/
theorem md_exact {q t mode : Int} (ht : 1 ≤ t) (h : CM.fits (q * t) = true) (hq : CM.fits q = true) (ht2 : CM.fits t = true) (h1 : 1 ≤ mode) (h5 : mode ≤ 5) : CM.mdN (q * t) 1 t mode = q ∧ CM.mdE (q * t) 1 t mode = 0 := by
  have hN : (CM.size (q * t)).toNat * (CM.size 1).toNat = (CM.size q).toNat * (CM.size t).toNat := by
    have e : CM.size (q * t) = CM.size q * t := by
      unfold CM.size
      by_cases hq0 : q < 0
      · have : q * t < 0 := Int.mul_neg_of_neg_of_pos hq0 (by omega)
        rw [if_pos this, if_pos hq0, Int.neg_mul]
      · have : ¬ q * t < 0 := by
          have := Int.mul_nonneg (show (0 : Int) ≤ q by omega) (show (0 : Int) ≤ t by omega)
          omega
        rw [if_neg this, if_neg hq0]
    have s0 := CM.size_nonneg q
    have e1 : CM.size 1 = 1 := by decide
    rw [e, e1, CM.size_of (show (0 : Int) < t by omega), Int.toNat_mul s0 (by omega)]
    simp
  have st : (CM.size t).toNat = t.toNat := by rw [CM.size_of (by omega)]
  have hQ : CM.mdQ (q * t) 1 t = (CM.size q).toNat := by
    unfold CM.mdQ
    rw [hN, Nat.mul_div_cancel _ (by rw [st]; omega)]
  have hR : CM.mdR (q * t) 1 t = 0 := by
    unfold CM.mdR
    rw [hN, Nat.mul_mod_left]
  have hG : CM.mdG (q * t) 1 t mode = CM.size q := by
    have s0 := CM.size_nonneg q
    unfold CM.mdG
    rw [hR, hQ]
    have : CM.grow ((CM.size q).toNat : Nat) (0 : Nat) (CM.size t) mode (CM.neg (q * t) 1 t) = false := by simp [CM.grow]
    rw [this]
    simp
    omega
  have f1 : CM.fits 1 = true := by decide
  have hA : CM.mdA (q * t) 1 t mode = true := by simp [CM.mdA, h, f1, ht2, h1, h5]
  obtain ⟨q1, q2⟩ := CM.fits_true.1 hq
  have hs := CM.size_le q1 q2
  have hE : CM.mdE (q * t) 1 t mode = 0 := by simp [CM.mdE, hA, show t ≠ 0 by omega, hG, hs]
  refine ⟨?_, hE⟩
  obtain ⟨_, _, _, hm⟩ := CM.md_ok hE
  rw [hm, hG, CM.neg_of (by omega) (by omega)]
  by_cases hq0 : q < 0
  · have : q * t < 0 := Int.mul_neg_of_neg_of_pos hq0 (by omega)
    have e : CM.size q = -q := by unfold CM.size; rw [if_pos hq0]
    simp only [this, decide_true, if_true]; omega
  · have : ¬ q * t < 0 := by
      have := Int.mul_nonneg (show (0 : Int) ≤ q by omega) (show (0 : Int) ≤ t by omega)
      omega
    have e : CM.size q = q := by unfold CM.size; rw [if_neg hq0]
    simp only [this, decide_false, Bool.false_eq_true, if_false]; omega
theorem clamp_mult {n low high t : Int} (hl : low ≤ high) (h1 : n.tmod t = 0) (h2 : low.tmod t = 0) (h3 : high.tmod t = 0) : (CM.clamp n low high).tmod t = 0 ∧ low ≤ CM.clamp n low high ∧ CM.clamp n low high ≤ high := by
  unfold CM.clamp
  split
  · exact ⟨h2, by omega, hl⟩
  · split
    · exact ⟨h3, hl, by omega⟩
    · exact ⟨h1, by omega, by omega⟩
/-- what is rounded may be a price -/
theorem round_ok {p : Prod} {x mode : Int} (h : roundE p x mode = 0) : priceE p (roundN p x mode) = 0 := by
  obtain ⟨hc, _, _⟩ := round_zero.1 h
  obtain ⟨_, _, _, _, ⟨_, hl, _⟩, m1, m2⟩ := check_parts hc
  have e : roundN p x mode = CM.clamp (CM.mdN x 1 p.tick mode * p.tick) p.low p.high := by unfold roundN; rw [if_pos h]
  rw [price_zero, e]
  obtain ⟨a, b, c⟩ := clamp_mult (n := CM.mdN x 1 p.tick mode * p.tick) hl (Int.mul_tmod_left _ _) m1 m2
  exact ⟨hc, ⟨b, c⟩, a⟩
/-- a price that may be is rounded to itself -/
theorem round_same {p : Prod} {x mode : Int} (h : priceE p x = 0) (h1 : 1 ≤ mode) (h5 : mode ≤ 5) : roundE p x mode = 0 ∧ roundN p x mode = x := by
  obtain ⟨hc, ⟨x1, x2⟩, hm⟩ := price_zero.1 h
  obtain ⟨_, _, _, ⟨t1, t2⟩, ⟨l1, l2, l3⟩, _, _⟩ := check_parts hc
  have hE : roundE p x mode = 0 := round_zero.2 ⟨hc, ⟨by omega, by omega⟩, h1, h5⟩
  refine ⟨hE, ?_⟩
  have e : roundN p x mode = CM.clamp (CM.mdN x 1 p.tick mode * p.tick) p.low p.high := by unfold roundN; rw [if_pos hE]
  obtain ⟨q, hq⟩ := Int.dvd_of_tmod_eq_zero hm
  rw [Int.mul_comm] at hq
  have hqb : -16777216 ≤ q ∧ q ≤ 16777216 := by
    constructor
    · rcases Int.lt_or_le q (-16777216) with g | g
      · exfalso
        have : q * p.tick ≤ q * 1 := Int.mul_le_mul_of_nonpos_left (by omega) (by omega)
        omega
      · exact g
    · rcases Int.lt_or_le 16777216 q with g | g
      · exfalso
        have : q * 1 ≤ q * p.tick := Int.mul_le_mul_of_nonneg_left (by omega) (by omega)
        omega
      · exact g
  have hx := (md_exact (q := q) (t := p.tick) (mode := mode) t1 (by rw [← hq]; exact fits_of (by omega) (by omega)) (fits_of (by omega) (by omega)) (fits_of (by omega) (by omega)) h1 h5).1
  rw [e, hq, hx, ← hq]
  unfold CM.clamp
  rw [if_neg (by omega), if_neg (by omega)]
/-- Values of lots add up -/
theorem value_neg {p : Prod} {x q : Int} (h : valueE p x q = 0) (h2 : valueE p (-x) q = 0) : valueN p (-x) q = -valueN p x q := by
  unfold valueN
  rw [if_pos h, if_pos h2]
  simp [Int.neg_mul]
theorem value_add {p : Prod} {x a b : Int} (h : valueE p x a = 0) (h2 : valueE p x b = 0) : (valueE p x (a + b) = 0 → valueN p x (a + b) = valueN p x a + valueN p x b) ∧ (valueE p x (a + b) = 0 ∨ valueE p x (a + b) = 18) := by
  refine ⟨fun h3 => ?_, ?_⟩
  · unfold valueN
    rw [if_pos h, if_pos h2, if_pos h3, Int.mul_add]
  · obtain ⟨hc, hx, _⟩ := value_zero.1 h
    unfold valueE
    rw [if_neg (by simp [hc]), if_neg (by rw [within_true.2 hx]; simp)]
    split <;> simp
theorem value_range {p : Prod} {x q : Int} (h : valueE p x q = 0) : (-137438953472 ≤ x * p.mult ∧ x * p.mult ≤ 137438953472) ∧ (-144115188075855872 ≤ x * p.mult * q ∧ x * p.mult * q ≤ 144115188075855872) := by
  obtain ⟨hc, ⟨x1, x2⟩, q1, q2⟩ := value_zero.1 h
  obtain ⟨_, _, ⟨m1, m2⟩, _⟩ := check_parts hc
  have a : -137438953472 ≤ x * p.mult ∧ x * p.mult ≤ 137438953472 := by
    constructor
    · have g1 : -33554432 * p.mult ≤ x * p.mult := Int.mul_le_mul_of_nonneg_right x1 (by omega)
      omega
    · have g1 : x * p.mult ≤ 33554432 * p.mult := Int.mul_le_mul_of_nonneg_right x2 (by omega)
      omega
  refine ⟨a, ?_⟩
  obtain ⟨a1, a2⟩ := a
  generalize x * p.mult = y at *
  have b1 : (y * q).natAbs ≤ 137438953472 * 1048576 := by
    rw [Int.natAbs_mul]
    exact Nat.mul_le_mul (by omega) (by omega)
  omega
end QM
