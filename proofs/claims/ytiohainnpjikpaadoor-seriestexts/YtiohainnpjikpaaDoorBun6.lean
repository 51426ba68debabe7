/- Put together: CentsMul, CentsLaws, RateMath, ProductMath, ProductMath2, SeriesMath2. -/
import Derived.Test.YtiohainnpjikpaaDoorBun5
import Derived.Test.YtiohainnpjikpaaDoorBun1
namespace CM

theorem mul_spec {a b : Int} (ha : fits a = true) (hb : fits b = true) :
    (size a * size b ≤ 1152921504606846976 → mdN a b 1 1 = a * b ∧ mdE a b 1 1 = 0) ∧
    (1152921504606846976 < size a * size b → mdN a b 1 1 = 0 ∧ mdE a b 1 1 = 3) := by
  have hA : mdA a b 1 1 = true := by simp [mdA, ha, hb]; decide
  have h1 : size 1 = 1 := rfl
  have hR : mdR a b 1 = 0 := by simp [mdR, h1, Nat.mod_one]
  have hQ : (mdQ a b 1 : Int) = size a * size b := by
    have := size_nonneg a
    have := size_nonneg b
    simp only [mdQ, h1, Int.toNat_one, Nat.div_one, Int.natCast_mul]
    rw [Int.toNat_of_nonneg ‹_›, Int.toNat_of_nonneg ‹_›]
  have hG : mdG a b 1 1 = size a * size b := by
    unfold mdG; rw [hR, hQ]; simp [grow]
  constructor
  · intro hle
    rw [← hG] at hle
    simp only [mdN, mdE, hA, hle, if_true]
    refine ⟨?_, by simp⟩
    rw [if_neg (by omega), hG]
    unfold neg size
    by_cases s1 : a < 0 <;> by_cases s2 : b < 0 <;> simp [s1, s2, Int.neg_mul, Int.mul_neg]
  · intro hlt
    rw [← hG] at hlt
    have hn : ¬ mdG a b 1 1 ≤ 1152921504606846976 := by omega
    simp [mdN, mdE, hA, hn]

theorem mul_arg {a b : Int} (h : fits a = false ∨ fits b = false) : mdN a b 1 1 = 0 ∧ mdE a b 1 1 = 2 := by
  have hA : mdA a b 1 1 = false := by rcases h with h | h <;> simp [mdA, h]
  simp [mdN, mdE, hA]

theorem over_iff {a b : Int} (ha : a ≠ 0) : 1152921504606846976 / size a < size b ↔ 1152921504606846976 < size a * size b := by
  rw [Int.ediv_lt_iff_lt_mul (size_pos ha), Int.mul_comm]

theorem size_mul (a b : Int) : size a * size b = size (a * b) := by
  unfold size
  by_cases s1 : a < 0 <;> by_cases s2 : b < 0
  · have : 0 < a * b := Int.mul_pos_of_neg_of_neg s1 s2
    simp only [s1, s2, if_true]; rw [if_neg (by omega), Int.neg_mul_neg]
  · rcases Int.lt_or_eq_of_le (Int.not_lt.1 s2) with h | h
    · have : a * b < 0 := Int.mul_neg_of_neg_of_pos s1 h
      simp only [s1, s2, this, if_true, if_false]; rw [Int.neg_mul]
    · subst h; simp
  · rcases Int.lt_or_eq_of_le (Int.not_lt.1 s1) with h | h
    · have : a * b < 0 := Int.mul_neg_of_pos_of_neg h s2
      simp only [s1, s2, this, if_true, if_false]; rw [Int.mul_neg]
    · subst h; simp
  · have : 0 ≤ a * b := Int.mul_nonneg (by omega) (by omega)
    simp only [s1, s2, if_false]; rw [if_neg (by omega)]

theorem mul_in {a b : Int} (h : size a * size b ≤ 1152921504606846976) : -1152921504606846976 ≤ a * b ∧ a * b ≤ 1152921504606846976 := by
  rw [size_mul] at h
  unfold size at h
  split at h <;> omega
end CM

/- Plain mathematics of the laws of layer 1. -/
namespace CM

theorem add_back {a b : Int} (h : addE a b = 0) : subN (addN a b) b = a ∧ subE (addN a b) b = 0 := by
  unfold addE at h
  cases ha : fits a <;> cases hb : fits b <;> simp [ha, hb] at h
  cases hc : fits (a + b)
  · simp [fitE, hc] at h
  · have e : addN a b = a + b := by simp [addN, fitN, ha, hb, hc]
    have e2 : a + b - b = a := by omega
    rw [e]
    simp [subN, subE, fitN, fitE, hb, hc, e2, ha]

theorem md_back {a b mode : Int} (ha : fits a = true) (hb : fits b = true) (h0 : b ≠ 0) (h1 : 1 ≤ mode) (h5 : mode ≤ 5) : mdN a b b mode = a ∧ mdE a b b mode = 0 := by
  have hA : mdA a b b mode = true := by simp [mdA, ha, hb, h1, h5]
  have sp := size_pos h0
  have hQ : mdQ a b b = (size a).toNat := by unfold mdQ; exact Nat.mul_div_cancel _ (by omega)
  have hR : mdR a b b = 0 := by unfold mdR; exact Nat.mul_mod_left _ _
  have hG : mdG a b b mode = size a := by
    have := size_nonneg a
    unfold mdG; rw [hQ, hR]; simp [grow]; omega
  obtain ⟨a1, a2⟩ := fits_true.1 ha
  have hle := size_le a1 a2
  simp only [mdN, mdE, hA, if_true, h0, if_false, hG, hle]
  refine ⟨?_, trivial⟩
  unfold neg size
  by_cases s1 : a < 0 <;> by_cases s2 : b < 0 <;> simp [s1, s2]

theorem fits_one : fits 1 = true := by decide

/-- the error of one mode says it of all, where even Down fails -/
theorem md_down_err {a b c mode : Int} (h : mdE a b c 1 ≠ 0) (h1 : 1 ≤ mode) (h5 : mode ≤ 5) : mdE a b c mode ≠ 0 := by
  cases hA : mdA a b c 1
  · have hA' : mdA a b c mode = false := by
      unfold mdA at hA ⊢
      simp [h1, h5] at hA ⊢
      exact hA
    simp [mdE, hA']
  · have hA' : mdA a b c mode = true := by
      unfold mdA at hA ⊢
      simp [h1, h5] at hA ⊢
      exact hA
    by_cases hc : c = 0
    · subst hc; simp [mdE, hA']
    · have hd : mdG a b c 1 = mdQ a b c := by unfold mdG; simp [grow]
      have hQ : 1152921504606846976 < (mdQ a b c : Int) := by
        simp [mdE, hA, hc, hd] at h
        omega
      rw [(md_over hA' hc hQ).2]; decide

/-- how the five modes lie, where all answer -/
def Lie (low high down up half : Int) : Prop :=
  ∃ q : Int, (0 ≤ q ∧ q ≤ 1152921504606846976) ∧
    ((low = q ∧ high = q ∧ down = q ∧ up = q ∧ half = q) ∨
     (low = q ∧ high = q + 1 ∧ down = q ∧ up = q + 1 ∧ (half = q ∨ half = q + 1)) ∨
     (low = -q ∧ high = -q ∧ down = -q ∧ up = -q ∧ half = -q) ∨
     (low = -(q + 1) ∧ high = -q ∧ down = -q ∧ up = -(q + 1) ∧ (half = -q ∨ half = -(q + 1))))

theorem md_ok {a b c mode : Int} (h : mdE a b c mode = 0) :
    mdA a b c mode = true ∧ c ≠ 0 ∧ mdG a b c mode ≤ 1152921504606846976 ∧ mdN a b c mode = if neg a b c then -mdG a b c mode else mdG a b c mode := by
  cases hA : mdA a b c mode
  · simp [mdE, hA] at h
  · by_cases hc : c = 0
    · subst hc; simp [mdE, hA] at h
    · by_cases hg : mdG a b c mode ≤ 1152921504606846976
      · exact ⟨rfl, hc, hg, by simp [mdN, hA, hc, hg]⟩
      · simp [mdE, hA, hc, hg] at h

theorem md_lie {a b c : Int} (e1 : mdE a b c 1 = 0) (e2 : mdE a b c 2 = 0) (e3 : mdE a b c 3 = 0) (e4 : mdE a b c 4 = 0) (e5 : mdE a b c 5 = 0) :
    Lie (mdN a b c 3) (mdN a b c 4) (mdN a b c 1) (mdN a b c 2) (mdN a b c 5) := by
  obtain ⟨_, hc, g1, n1⟩ := md_ok e1
  obtain ⟨_, _, g2, n2⟩ := md_ok e2
  obtain ⟨_, _, g3, n3⟩ := md_ok e3
  obtain ⟨_, _, g4, n4⟩ := md_ok e4
  obtain ⟨_, _, g5, n5⟩ := md_ok e5
  have q0 := mdQ_nonneg a b c
  refine ⟨mdQ a b c, ⟨q0, ?_⟩, ?_⟩
  · unfold mdG at g1; split at g1 <;> omega
  rw [n1, n2, n3, n4, n5]
  by_cases hr : (mdR a b c : Int) = 0
  · have hz : ∀ m, mdG a b c m = mdQ a b c := fun m => by unfold mdG grow; simp [hr]
    simp only [hz]
    cases neg a b c <;> simp
  · have z1 : mdG a b c 1 = mdQ a b c := by unfold mdG grow; simp
    have z2 : mdG a b c 2 = mdQ a b c + 1 := by unfold mdG grow; rw [if_neg hr]; simp
    cases hn : neg a b c
    · have z3 : mdG a b c 3 = mdQ a b c := by unfold mdG grow; rw [if_neg hr]; simp [hn]
      have z4 : mdG a b c 4 = mdQ a b c + 1 := by unfold mdG grow; rw [if_neg hr]; simp [hn]
      have z5 : mdG a b c 5 = mdQ a b c ∨ mdG a b c 5 = mdQ a b c + 1 := by unfold mdG; split <;> omega
      rw [z1, z2, z3, z4]
      simp only [Bool.false_eq_true, if_false]
      exact .inr (.inl ⟨trivial, trivial, trivial, trivial, z5⟩)
    · have z3 : mdG a b c 3 = mdQ a b c + 1 := by unfold mdG grow; rw [if_neg hr]; simp [hn]
      have z4 : mdG a b c 4 = mdQ a b c := by unfold mdG grow; rw [if_neg hr]; simp [hn]
      have z5 : mdG a b c 5 = mdQ a b c ∨ mdG a b c 5 = mdQ a b c + 1 := by unfold mdG; split <;> omega
      rw [z1, z2, z3, z4]
      simp only [if_true]
      refine .inr (.inr (.inr ⟨trivial, trivial, trivial, trivial, ?_⟩))
      rcases z5 with z | z <;> rw [z]
      · exact .inl rfl
      · exact .inr rfl
end CM

/- What conversions by two rates do: there and back; more is no less. -/
namespace CM
set_option linter.unusedVariables false

/-- both rates above nought: the sign is the amount's -/
theorem neg_of {a b c : Int} (hb : 0 < b) (hc : 0 < c) : neg a b c = decide (a < 0) := by
  unfold neg
  rw [decide_eq_false (show ¬ b < 0 by omega), decide_eq_false (show ¬ c < 0 by omega)]
  cases decide (a < 0) <;> rfl
theorem size_of {b : Int} (hb : 0 < b) : size b = b := by unfold size; rw [if_neg (by omega)]
/-- an amount's errors: of what may be asked, only that it is too great -/
theorem md_err {a b c mode : Int} (ha : fits a = true) (hb : fits b = true) (hc : fits c = true) (h0 : c ≠ 0) (h1 : 1 ≤ mode) (h5 : mode ≤ 5) : mdE a b c mode ≠ 0 → mdN a b c mode = 0 ∧ mdE a b c mode = 3 := by
  have hA : mdA a b c mode = true := by simp [mdA, ha, hb, hc, h1, h5]
  intro h
  by_cases hg : mdG a b c mode ≤ 1152921504606846976
  · exfalso; apply h; simp [mdE, hA, h0, hg]
  · simp [mdN, mdE, hA, h0, hg]
theorem down_q (a b c : Int) : mdG a b c 1 = mdQ a b c := by unfold mdG; simp [grow]
/-- there and back, by Down -/
theorem there_back {n f t : Int} (hn : fits n = true) (hf : 0 < f) (ht : 0 < t) (ff : fits f = true) (ft : fits t = true) (he : mdE n f t 1 = 0) :
    mdE (mdN n f t 1) t f 1 = 0 ∧
      ((n < 0 → mdN (mdN n f t 1) t f 1 ≤ 0 ∧ n ≤ mdN (mdN n f t 1) t f 1 ∧ mdN n f t 1 ≤ 0) ∧ (0 ≤ n → 0 ≤ mdN (mdN n f t 1) t f 1 ∧ mdN (mdN n f t 1) t f 1 ≤ n ∧ 0 ≤ mdN n f t 1)) := by
  obtain ⟨_, _, hg, hm⟩ := md_ok he
  rw [down_q] at hg hm
  rw [neg_of hf ht] at hm
  have q0 := mdQ_nonneg n f t
  -- sizes
  have hs : size (mdN n f t 1) = mdQ n f t := by
    rw [hm]
    by_cases h : n < 0
    · simp only [h, decide_true, if_true]; unfold size; split <;> omega
    · simp only [h, decide_false, Bool.false_eq_true, if_false]; unfold size; split <;> omega
  have hmf : fits (mdN n f t 1) = true := by
    rw [fits_true, hm]
    split <;> omega
  have hle : mdQ n f t * t.toNat ≤ (size n).toNat * f.toNat := by
    unfold mdQ
    rw [size_of hf, size_of ht]
    exact Nat.div_mul_le_self _ _
  have hq2 : mdQ (mdN n f t 1) t f ≤ (size n).toNat := by
    have e : mdQ (mdN n f t 1) t f = (mdQ n f t) * t.toNat / f.toNat := by
      show (size (mdN n f t 1)).toNat * (size t).toNat / (size f).toNat = _
      rw [hs, size_of hf, size_of ht]; rfl
    rw [e]
    have h1 : mdQ n f t * t.toNat / f.toNat ≤ (size n).toNat * f.toNat / f.toNat := Nat.div_le_div_right hle
    rw [Nat.mul_div_cancel _ (by omega)] at h1
    exact h1
  obtain ⟨n1, n2⟩ := fits_true.1 hn
  have hsn := size_le n1 n2
  have hsn0 := size_nonneg n
  have hA2 : mdA (mdN n f t 1) t f 1 = true := by simp [mdA, hmf, ff, ft]
  have hg2 : mdG (mdN n f t 1) t f 1 ≤ 1152921504606846976 := by rw [down_q]; omega
  have e2 : mdE (mdN n f t 1) t f 1 = 0 := by simp [mdE, hA2, show f ≠ 0 by omega, hg2]
  obtain ⟨_, _, _, hb⟩ := md_ok e2
  rw [down_q, neg_of ht hf] at hb
  have q2 := mdQ_nonneg (mdN n f t 1) t f
  generalize mdQ (mdN n f t 1) t f = Q2 at *
  generalize mdQ n f t = Q at *
  have hz : n < 0 → size n = -n := fun h => by unfold size; rw [if_pos h]
  have hz2 : 0 ≤ n → size n = n := fun h => by unfold size; rw [if_neg (by omega)]
  refine ⟨e2, fun h => ?_, fun h => ?_⟩
  · rw [hb]
    simp only [h, decide_true, if_true] at hm
    have := hz h
    rw [hm]
    by_cases c : (-(Q : Int)) < 0
    · simp only [c, decide_true, if_true]; omega
    · have hQ : Q = 0 := by omega
      subst hQ
      have : mdN n f t 1 = 0 := by rw [hm]; rfl
      simp only [c, decide_false, Bool.false_eq_true, if_false]
      -- nought turned back is nought
      have hbz : size (mdN n f t 1) = 0 := by rw [this]; rfl
      rw [this] at hb
      have hq0 : mdN 0 t f 1 = Q2 := by rw [hb]; rfl
      have hq1 : mdQ 0 t f = 0 := by unfold mdQ; simp [size]
      have := (md_ok (a := 0) (b := t) (c := f) (mode := 1) (by rw [‹mdN n f t 1 = 0›] at e2; exact e2)).2.2.2
      rw [down_q, hq1, neg_of ht hf] at this
      have h00 : mdN 0 t f 1 = 0 := by rw [this]; rfl
      omega
  · rw [hb]
    have hnn : ¬ n < 0 := by omega
    simp only [hnn, decide_false, Bool.false_eq_true, if_false] at hm
    have := hz2 h
    rw [hm]
    have c : ¬ ((Q : Int) < 0) := by omega
    simp only [c, decide_false, Bool.false_eq_true, if_false]
    omega

theorem grow_mono {q r r' c mode : Int} {n : Bool} (h0 : 0 ≤ r) (h : r ≤ r') (hg : grow q r c mode n = true) : grow q r' c mode n = true := by
  unfold grow at hg ⊢
  by_cases hr : r = 0
  · rw [if_pos hr] at hg; cases hg
  · rw [if_neg hr] at hg
    rw [if_neg (by omega)]
    by_cases h2 : mode = 2
    · rw [if_pos h2]
    · rw [if_neg h2] at hg ⊢
      by_cases h3 : mode = 3
      · rw [if_pos h3] at hg ⊢; exact hg
      · rw [if_neg h3] at hg ⊢
        by_cases h4 : mode = 4
        · rw [if_pos h4] at hg ⊢; exact hg
        · rw [if_neg h4] at hg ⊢
          by_cases h5 : mode = 5
          · rw [if_pos h5] at hg ⊢
            simp only [Bool.or_eq_true, Bool.and_eq_true, decide_eq_true_eq] at hg ⊢
            rcases hg with g | ⟨g1, g2⟩
            · left; omega
            · by_cases e : 2 * r' = c
              · right; exact ⟨e, g2⟩
              · left; omega
          · rw [if_neg h5] at hg; cases hg
/-- of two amounts of one sign the greater one's quotient is not less -/
theorem g_mono {a a' b c mode : Int} (hb : 0 < b) (hc : 0 < c) (hs : size a ≤ size a') (hn : neg a b c = neg a' b c) : mdG a b c mode ≤ mdG a' b c mode := by
  have h0 := size_nonneg a
  have hN : (size a).toNat * (size b).toNat ≤ (size a').toNat * (size b).toNat := Nat.mul_le_mul_right _ (by omega)
  have hcn : 0 < (size c).toNat := by rw [size_of hc]; omega
  have hq : mdQ a b c ≤ mdQ a' b c := Nat.div_le_div_right hN
  have e1 : (size c).toNat * mdQ a b c + mdR a b c = (size a).toNat * (size b).toNat := Nat.div_add_mod _ _
  have e2 : (size c).toNat * mdQ a' b c + mdR a' b c = (size a').toNat * (size b).toNat := Nat.div_add_mod _ _
  unfold mdG
  rw [← hn]
  rcases Nat.lt_or_ge (mdQ a b c) (mdQ a' b c) with g | g
  · split <;> split <;> omega
  · have he : mdQ a b c = mdQ a' b c := by omega
    rw [← he] at e2 ⊢
    have hr : (mdR a b c : Int) ≤ mdR a' b c := by omega
    by_cases hg : grow (mdQ a b c) (mdR a b c) (size c) mode (neg a b c) = true
    · rw [if_pos hg, if_pos (grow_mono (Int.natCast_nonneg _) hr hg)]; exact Int.le_refl _
    · rw [if_neg hg]; split <;> omega
theorem g_nonneg (a b c mode : Int) : 0 ≤ mdG a b c mode := by
  have := mdQ_nonneg a b c
  unfold mdG; split <;> omega
/-- more is turned into no less -/
theorem md_rises {a a' b c mode : Int} (hb : 0 < b) (hc : 0 < c) (h : a ≤ a') (e : mdE a b c mode = 0) (e' : mdE a' b c mode = 0) : mdN a b c mode ≤ mdN a' b c mode := by
  obtain ⟨_, _, _, h1⟩ := md_ok e
  obtain ⟨_, _, _, h2⟩ := md_ok e'
  rw [h1, h2]
  have g1 := g_nonneg a b c mode
  have g2 := g_nonneg a' b c mode
  have n1 := neg_of (a := a) hb hc
  have n2 := neg_of (a := a') hb hc
  by_cases s1 : a < 0
  · by_cases s2 : a' < 0
    · have hg := g_mono (a := a') (a' := a) (b := b) (c := c) (mode := mode) hb hc (by unfold size; rw [if_pos s1, if_pos s2]; omega) (by rw [n1, n2]; simp [s1, s2])
      rw [n1, n2]
      simp only [s1, s2, decide_true, if_true]
      omega
    · rw [n1, n2]
      simp only [s1, s2, decide_true, decide_false, if_true, Bool.false_eq_true, if_false]
      omega
  · have s2 : ¬ a' < 0 := by omega
    have hg := g_mono (a := a) (a' := a') (b := b) (c := c) (mode := mode) hb hc (by unfold size; rw [if_neg s1, if_neg s2]; omega) (by rw [n1, n2]; simp [s1, s2])
    rw [n1, n2]
    simp only [s1, s2, decide_false, Bool.false_eq_true, if_false]
    omega
end CM

/- Layer 9's mathematics: products, their prices, roundings and values. -/
namespace QM
structure Prod where
  name : ByteArray
  cur : Int
  mult : Int
  tick : Int
  low : Int
  high : Int
  phys : Bool
def zero : Prod := ⟨⟨#[]⟩, 0, 0, 0, 0, 0, false⟩
def within (n a b : Int) : Bool := decide (a ≤ n) && decide (n ≤ b)
theorem within_true {n a b : Int} : within n a b = true ↔ a ≤ n ∧ n ≤ b := by simp [within]
theorem within_false {n a b : Int} : within n a b = false ↔ n < a ∨ b < n := by rw [Bool.eq_false_iff, ne_eq, within_true]; omega
def nameOk (p : Prod) : Bool := WM.name p.name.data.toList
def rangeOk (p : Prod) : Bool := within p.low (-16777216) 16777216 && within p.high (-16777216) 16777216 && decide (p.low ≤ p.high) && (p.low.tmod p.tick == 0) && (p.high.tmod p.tick == 0)
def checkE (p : Prod) : Int :=
  if nameOk p = false then 10 else if within p.cur 0 7 = false then 25 else if within p.mult 1 4096 = false then 2 else if within p.tick 1 16777216 = false then 16 else if rangeOk p = false then 17 else 0
theorem check_parts {p : Prod} (h : checkE p = 0) : nameOk p = true ∧ (0 ≤ p.cur ∧ p.cur ≤ 7) ∧ (1 ≤ p.mult ∧ p.mult ≤ 4096) ∧ (1 ≤ p.tick ∧ p.tick ≤ 16777216) ∧
    (-16777216 ≤ p.low ∧ p.low ≤ p.high ∧ p.high ≤ 16777216) ∧ p.low.tmod p.tick = 0 ∧ p.high.tmod p.tick = 0 := by
  unfold checkE at h
  split at h
  · cases h
  · split at h
    · cases h
    · split at h
      · cases h
      · split at h
        · cases h
        · split at h
          · cases h
          · rename_i h1 h2 h3 h4 h5
            rw [Bool.not_eq_false] at h1 h2 h3 h4 h5
            rw [within_true] at h2 h3 h4
            unfold rangeOk at h5
            simp only [Bool.and_eq_true, within_true, decide_eq_true_eq, beq_iff_eq] at h5
            obtain ⟨⟨⟨⟨a, b⟩, c⟩, d⟩, e⟩ := h5
            exact ⟨h1, h2, h3, h4, ⟨a.1, c, b.2⟩, d, e⟩
theorem check_cases (p : Prod) : checkE p = 0 ∨ checkE p = 10 ∨ checkE p = 25 ∨ checkE p = 2 ∨ checkE p = 16 ∨ checkE p = 17 := by
  unfold checkE
  split
  · simp
  · split
    · simp
    · split
      · simp
      · split
        · simp
        · split <;> simp

/-- a list of products: product by product -/
def lessB (s t : ByteArray) : Bool := Go.Op.bytesLess s.toList t.toList
def pAt (l : List Prod) (k : Nat) : Prod := l.getD k zero
/-- the error of product k, or that its name is not behind the one ahead -/
def oneE (l : List Prod) (k : Nat) : Int := if checkE (pAt l k) ≠ 0 then checkE (pAt l k) else if 0 < k ∧ lessB (pAt l (k - 1)).name (pAt l k).name = false then 12 else 0
def uptoE (l : List Prod) : Nat → Int
  | 0 => 0
  | k + 1 => if uptoE l k = 0 then oneE l k else uptoE l k
def allE (l : List Prod) : Int := if 32 < l.length then 8 else uptoE l l.length
theorem upto_stay {l : List Prod} {k : Nat} (h : uptoE l k ≠ 0) : ∀ m, uptoE l (k + m) = uptoE l k := by
  intro m
  induction m with
  | zero => rfl
  | succ m ih => rw [← Nat.add_assoc, uptoE, ih, if_neg h]
theorem all_stop {l : List Prod} {k : Nat} (hl : ¬ 32 < l.length) (hk : k < l.length) (h : uptoE l k = 0) (h2 : oneE l k ≠ 0) : allE l = oneE l k := by
  have e : uptoE l (k + 1) = oneE l k := by rw [uptoE, if_pos h]
  unfold allE
  rw [if_neg hl]
  have := @upto_stay l (k + 1) (by rw [e]; exact h2) (l.length - (k + 1))
  rw [show k + 1 + (l.length - (k + 1)) = l.length by omega] at this
  rw [this, e]
theorem upto_step {l : List Prod} {k : Nat} (h : uptoE l k = 0) (h2 : oneE l k = 0) : uptoE l (k + 1) = 0 := by rw [uptoE, if_pos h]; exact h2
theorem upto_back {l : List Prod} {n : Nat} (h : uptoE l n = 0) : ∀ k, k < n → oneE l k = 0 := by
  induction n with
  | zero => intro k hk; omega
  | succ n ih =>
    intro k hk
    rw [uptoE] at h
    by_cases hn : uptoE l n = 0
    · rw [if_pos hn] at h
      rcases Nat.lt_or_ge k n with g | g
      · exact ih hn k g
      · obtain rfl : k = n := by omega
        exact h
    · rw [if_neg hn] at h; exact absurd h hn
theorem all_ok {l : List Prod} (h : allE l = 0) : l.length ≤ 32 ∧ ∀ k, k < l.length → checkE (pAt l k) = 0 := by
  unfold allE at h
  split at h
  · cases h
  · refine ⟨by omega, fun k hk => ?_⟩
    have := upto_back h k hk
    unfold oneE at this
    by_cases hc : checkE (pAt l k) = 0
    · exact hc
    · rw [if_pos hc] at this; exact absurd this hc

def priceE (p : Prod) (x : Int) : Int := if checkE p ≠ 0 then checkE p else if within x p.low p.high = false then 17 else if x.tmod p.tick ≠ 0 then 16 else 0
def roundE (p : Prod) (x mode : Int) : Int := if checkE p ≠ 0 then checkE p else if within x (-16777216) 16777216 = false then 17 else if within mode 1 5 = false then 2 else 0
def roundN (p : Prod) (x mode : Int) : Int := if roundE p x mode = 0 then CM.clamp (CM.mdN x 1 p.tick mode * p.tick) p.low p.high else 0
def valueE (p : Prod) (x q : Int) : Int := if checkE p ≠ 0 then checkE p else if within x (-33554432) 33554432 = false then 17 else if within q (-1048576) 1048576 = false then 18 else 0
def valueN (p : Prod) (x q : Int) : Int := if valueE p x q = 0 then x * p.mult * q else 0

theorem price_zero {p : Prod} {x : Int} : priceE p x = 0 ↔ checkE p = 0 ∧ (p.low ≤ x ∧ x ≤ p.high) ∧ x.tmod p.tick = 0 := by
  unfold priceE
  constructor
  · intro h
    split at h
    · rename_i h1; exact absurd h h1
    · rename_i h1
      split at h
      · cases h
      · split at h
        · cases h
        · rename_i h2 h3
          exact ⟨Classical.not_not.1 h1, within_true.1 (by simpa using h2), Classical.not_not.1 h3⟩
  · rintro ⟨h1, h2, h3⟩
    rw [if_neg (by simp [h1]), if_neg (by rw [within_true.2 h2]; simp), if_neg (by simp [h3])]
theorem round_zero {p : Prod} {x mode : Int} : roundE p x mode = 0 ↔ checkE p = 0 ∧ (-16777216 ≤ x ∧ x ≤ 16777216) ∧ (1 ≤ mode ∧ mode ≤ 5) := by
  unfold roundE
  constructor
  · intro h
    split at h
    · rename_i h1; exact absurd h h1
    · rename_i h1
      split at h
      · cases h
      · split at h
        · cases h
        · rename_i h2 h3
          exact ⟨Classical.not_not.1 h1, within_true.1 (by simpa using h2), within_true.1 (by simpa using h3)⟩
  · rintro ⟨h1, h2, h3⟩
    rw [if_neg (by simp [h1]), if_neg (by rw [within_true.2 h2]; simp), if_neg (by rw [within_true.2 h3]; simp)]
theorem value_zero {p : Prod} {x q : Int} : valueE p x q = 0 ↔ checkE p = 0 ∧ (-33554432 ≤ x ∧ x ≤ 33554432) ∧ (-1048576 ≤ q ∧ q ≤ 1048576) := by
  unfold valueE
  constructor
  · intro h
    split at h
    · rename_i h1; exact absurd h h1
    · rename_i h1
      split at h
      · cases h
      · split at h
        · cases h
        · rename_i h2 h3
          exact ⟨Classical.not_not.1 h1, within_true.1 (by simpa using h2), within_true.1 (by simpa using h3)⟩
  · rintro ⟨h1, h2, h3⟩
    rw [if_neg (by simp [h1]), if_neg (by rw [within_true.2 h2]; simp), if_neg (by rw [within_true.2 h3]; simp)]

theorem fits_of {n : Int} (h1 : -33554432 ≤ n) (h2 : n ≤ 33554432) : CM.fits n = true := by rw [CM.fits_true]; omega
/-- an amount divided by what divides it -/
theorem md_exact {q t mode : Int} (ht : 1 ≤ t) (h : CM.fits (q * t) = true) (hq : CM.fits q = true) (ht2 : CM.fits t = true) (h1 : 1 ≤ mode) (h5 : mode ≤ 5) : CM.mdN (q * t) 1 t mode = q ∧ CM.mdE (q * t) 1 t mode = 0 := by
  have hN : (CM.size (q * t)).toNat * (CM.size 1).toNat = (CM.size q).toNat * (CM.size t).toNat := by
    have e : CM.size (q * t) = CM.size q * t := by
      unfold CM.size
      by_cases hq0 : q < 0
      · have : q * t < 0 := Int.mul_neg_of_neg_of_pos hq0 (by omega)
        rw [if_pos this, if_pos hq0, Int.neg_mul]
      · have : ¬ q * t < 0 := by
          have := Int.mul_nonneg (show (0 : Int) ≤ q by omega) (show (0 : Int) ≤ t by omega)
          omega
        rw [if_neg this, if_neg hq0]
    have s0 := CM.size_nonneg q
    have e1 : CM.size 1 = 1 := by decide
    rw [e, e1, CM.size_of (show (0 : Int) < t by omega), Int.toNat_mul s0 (by omega)]
    simp
  have st : (CM.size t).toNat = t.toNat := by rw [CM.size_of (by omega)]
  have hQ : CM.mdQ (q * t) 1 t = (CM.size q).toNat := by
    unfold CM.mdQ
    rw [hN, Nat.mul_div_cancel _ (by rw [st]; omega)]
  have hR : CM.mdR (q * t) 1 t = 0 := by
    unfold CM.mdR
    rw [hN, Nat.mul_mod_left]
  have hG : CM.mdG (q * t) 1 t mode = CM.size q := by
    have s0 := CM.size_nonneg q
    unfold CM.mdG
    rw [hR, hQ]
    have : CM.grow ((CM.size q).toNat : Nat) (0 : Nat) (CM.size t) mode (CM.neg (q * t) 1 t) = false := by simp [CM.grow]
    rw [this]
    simp
    omega
  have f1 : CM.fits 1 = true := by decide
  have hA : CM.mdA (q * t) 1 t mode = true := by simp [CM.mdA, h, f1, ht2, h1, h5]
  obtain ⟨q1, q2⟩ := CM.fits_true.1 hq
  have hs := CM.size_le q1 q2
  have hE : CM.mdE (q * t) 1 t mode = 0 := by simp [CM.mdE, hA, show t ≠ 0 by omega, hG, hs]
  refine ⟨?_, hE⟩
  obtain ⟨_, _, _, hm⟩ := CM.md_ok hE
  rw [hm, hG, CM.neg_of (by omega) (by omega)]
  by_cases hq0 : q < 0
  · have : q * t < 0 := Int.mul_neg_of_neg_of_pos hq0 (by omega)
    have e : CM.size q = -q := by unfold CM.size; rw [if_pos hq0]
    simp only [this, decide_true, if_true]; omega
  · have : ¬ q * t < 0 := by
      have := Int.mul_nonneg (show (0 : Int) ≤ q by omega) (show (0 : Int) ≤ t by omega)
      omega
    have e : CM.size q = q := by unfold CM.size; rw [if_neg hq0]
    simp only [this, decide_false, Bool.false_eq_true, if_false]; omega
theorem clamp_mult {n low high t : Int} (hl : low ≤ high) (h1 : n.tmod t = 0) (h2 : low.tmod t = 0) (h3 : high.tmod t = 0) : (CM.clamp n low high).tmod t = 0 ∧ low ≤ CM.clamp n low high ∧ CM.clamp n low high ≤ high := by
  unfold CM.clamp
  split
  · exact ⟨h2, by omega, hl⟩
  · split
    · exact ⟨h3, hl, by omega⟩
    · exact ⟨h1, by omega, by omega⟩
/-- what is rounded may be a price -/
theorem round_ok {p : Prod} {x mode : Int} (h : roundE p x mode = 0) : priceE p (roundN p x mode) = 0 := by
  obtain ⟨hc, _, _⟩ := round_zero.1 h
  obtain ⟨_, _, _, _, ⟨_, hl, _⟩, m1, m2⟩ := check_parts hc
  have e : roundN p x mode = CM.clamp (CM.mdN x 1 p.tick mode * p.tick) p.low p.high := by unfold roundN; rw [if_pos h]
  rw [price_zero, e]
  obtain ⟨a, b, c⟩ := clamp_mult (n := CM.mdN x 1 p.tick mode * p.tick) hl (Int.mul_tmod_left _ _) m1 m2
  exact ⟨hc, ⟨b, c⟩, a⟩
/-- a price that may be is rounded to itself -/
theorem round_same {p : Prod} {x mode : Int} (h : priceE p x = 0) (h1 : 1 ≤ mode) (h5 : mode ≤ 5) : roundE p x mode = 0 ∧ roundN p x mode = x := by
  obtain ⟨hc, ⟨x1, x2⟩, hm⟩ := price_zero.1 h
  obtain ⟨_, _, _, ⟨t1, t2⟩, ⟨l1, l2, l3⟩, _, _⟩ := check_parts hc
  have hE : roundE p x mode = 0 := round_zero.2 ⟨hc, ⟨by omega, by omega⟩, h1, h5⟩
  refine ⟨hE, ?_⟩
  have e : roundN p x mode = CM.clamp (CM.mdN x 1 p.tick mode * p.tick) p.low p.high := by unfold roundN; rw [if_pos hE]
  obtain ⟨q, hq⟩ := Int.dvd_of_tmod_eq_zero hm
  rw [Int.mul_comm] at hq
  have hqb : -16777216 ≤ q ∧ q ≤ 16777216 := by
    constructor
    · rcases Int.lt_or_le q (-16777216) with g | g
      · exfalso
        have : q * p.tick ≤ q * 1 := Int.mul_le_mul_of_nonpos_left (by omega) (by omega)
        omega
      · exact g
    · rcases Int.lt_or_le 16777216 q with g | g
      · exfalso
        have : q * 1 ≤ q * p.tick := Int.mul_le_mul_of_nonneg_left (by omega) (by omega)
        omega
      · exact g
  have hx := (md_exact (q := q) (t := p.tick) (mode := mode) t1 (by rw [← hq]; exact fits_of (by omega) (by omega)) (fits_of (by omega) (by omega)) (fits_of (by omega) (by omega)) h1 h5).1
  rw [e, hq, hx, ← hq]
  unfold CM.clamp
  rw [if_neg (by omega), if_neg (by omega)]
/-- Values of lots add up -/
theorem value_neg {p : Prod} {x q : Int} (h : valueE p x q = 0) (h2 : valueE p (-x) q = 0) : valueN p (-x) q = -valueN p x q := by
  unfold valueN
  rw [if_pos h, if_pos h2]
  simp [Int.neg_mul]
theorem value_add {p : Prod} {x a b : Int} (h : valueE p x a = 0) (h2 : valueE p x b = 0) : (valueE p x (a + b) = 0 → valueN p x (a + b) = valueN p x a + valueN p x b) ∧ (valueE p x (a + b) = 0 ∨ valueE p x (a + b) = 18) := by
  refine ⟨fun h3 => ?_, ?_⟩
  · unfold valueN
    rw [if_pos h, if_pos h2, if_pos h3, Int.mul_add]
  · obtain ⟨hc, hx, _⟩ := value_zero.1 h
    unfold valueE
    rw [if_neg (by simp [hc]), if_neg (by rw [within_true.2 hx]; simp)]
    split <;> simp
theorem value_range {p : Prod} {x q : Int} (h : valueE p x q = 0) : (-137438953472 ≤ x * p.mult ∧ x * p.mult ≤ 137438953472) ∧ (-144115188075855872 ≤ x * p.mult * q ∧ x * p.mult * q ≤ 144115188075855872) := by
  obtain ⟨hc, ⟨x1, x2⟩, q1, q2⟩ := value_zero.1 h
  obtain ⟨_, _, ⟨m1, m2⟩, _⟩ := check_parts hc
  have a : -137438953472 ≤ x * p.mult ∧ x * p.mult ≤ 137438953472 := by
    constructor
    · have g1 : -33554432 * p.mult ≤ x * p.mult := Int.mul_le_mul_of_nonneg_right x1 (by omega)
      omega
    · have g1 : x * p.mult ≤ 33554432 * p.mult := Int.mul_le_mul_of_nonneg_right x2 (by omega)
      omega
  refine ⟨a, ?_⟩
  obtain ⟨a1, a2⟩ := a
  generalize x * p.mult = y at *
  have b1 : (y * q).natAbs ≤ 137438953472 * 1048576 := by
    rw [Int.natAbs_mul]
    exact Nat.mul_le_mul (by omega) (by omega)
  omega
end QM

/- Layer 9's mathematics: a product's line. -/
namespace QM
def cash : List UInt8 := [99, 97, 115, 104]
def physical : List UInt8 := [112, 104, 121, 115, 105, 99, 97, 108]
def word (b : Bool) : List UInt8 := if b then physical else cash
def fieldsOf (p : Prod) : List (List UInt8) := [p.name.data.toList, WM.textL p.cur, WM.textL p.mult, WM.textL p.tick, WM.textL p.low, WM.textL p.high, word p.phys]
def printL (p : Prod) : List UInt8 := WM.joinL (fieldsOf p)
def fAt (f : List (List UInt8)) (k : Nat) : List UInt8 := f.getD k []
def prodOf (f : List (List UInt8)) : Prod := ⟨⟨(fAt f 0).toArray⟩, WM.intN (fAt f 1), WM.intN (fAt f 2), WM.intN (fAt f 3), WM.intN (fAt f 4), WM.intN (fAt f 5), decide (fAt f 6 = physical)⟩
/-- seven fields, five numbers, one of the two words -/
def form (f : List (List UInt8)) : Prop := f.length = 7 ∧ (fAt f 6 = cash ∨ fAt f 6 = physical) ∧ WM.intE (fAt f 1) = 0 ∧ WM.intE (fAt f 2) = 0 ∧ WM.intE (fAt f 3) = 0 ∧ WM.intE (fAt f 4) = 0 ∧ WM.intE (fAt f 5) = 0
open Classical in
noncomputable def parE (l : List UInt8) : Int := if WM.fieldsE l ≠ 0 then WM.fieldsE l else if form (WM.fieldsN l) then checkE (prodOf (WM.fieldsN l)) else 5
open Classical in
noncomputable def parN (l : List UInt8) : Prod := if parE l = 0 then prodOf (WM.fieldsN l) else zero
theorem par_bad {l : List UInt8} (h : WM.fieldsE l ≠ 0) : parE l = WM.fieldsE l ∧ parN l = zero := by
  have e : parE l = WM.fieldsE l := by unfold parE; rw [if_pos h]
  exact ⟨e, by unfold parN; rw [e, if_neg h]⟩
theorem par_form {l : List UInt8} (h : WM.fieldsE l = 0) (h2 : ¬ form (WM.fieldsN l)) : parE l = 5 ∧ parN l = zero := by
  have e : parE l = 5 := by unfold parE; rw [if_neg (by simp [h]), if_neg h2]
  exact ⟨e, by unfold parN; rw [e, if_neg (by decide)]⟩
theorem par_check {l : List UInt8} (h : WM.fieldsE l = 0) (h2 : form (WM.fieldsN l)) (h3 : checkE (prodOf (WM.fieldsN l)) ≠ 0) : parE l = checkE (prodOf (WM.fieldsN l)) ∧ parN l = zero := by
  have e : parE l = checkE (prodOf (WM.fieldsN l)) := by unfold parE; rw [if_neg (by simp [h]), if_pos h2]
  exact ⟨e, by unfold parN; rw [e, if_neg h3]⟩
theorem par_ok {l : List UInt8} (h : WM.fieldsE l = 0) (h2 : form (WM.fieldsN l)) (h3 : checkE (prodOf (WM.fieldsN l)) = 0) : parE l = 0 ∧ parN l = prodOf (WM.fieldsN l) := by
  have e : parE l = 0 := by unfold parE; rw [if_neg (by simp [h]), if_pos h2, h3]
  exact ⟨e, by unfold parN; rw [if_pos e]⟩
theorem par_zero {l : List UInt8} (h : parE l = 0) : WM.fieldsE l = 0 ∧ form (WM.fieldsN l) ∧ checkE (prodOf (WM.fieldsN l)) = 0 ∧ parN l = prodOf (WM.fieldsN l) := by
  by_cases h1 : WM.fieldsE l = 0
  · by_cases h2 : form (WM.fieldsN l)
    · have e : parE l = checkE (prodOf (WM.fieldsN l)) := by unfold parE; rw [if_neg (by simp [h1]), if_pos h2]
      exact ⟨h1, h2, by rw [← e]; exact h, by unfold parN; rw [if_pos h]⟩
    · rw [(par_form h1 h2).1] at h; cases h
  · rw [(par_bad h1).1] at h; exact absurd h h1

/-- a number's text is one field -/
theorem text_field (n : Int) (h : n.natAbs ≤ 4294967296) : WM.fieldsE (WM.textL n) = 0 ∧ (WM.fieldsN (WM.textL n)).length = 1 := by
  rw [WM.one_field]
  have hd := WM.dec_dig n.natAbs
  have hl := WM.dec_length n.natAbs
  have hlen : (WM.dec n.natAbs).length ≤ 20 := by
    have key : ∀ k m : Nat, m < 10 ^ (k + 1) → (WM.dec m).length ≤ k + 1 := by
      intro k
      induction k with
      | zero => intro m hm; rw [WM.dec_small (by simpa using hm)]; simp
      | succ k ih =>
        intro m hm
        by_cases h10 : m < 10
        · rw [WM.dec_small h10]; simp
        · rw [WM.dec_big h10, List.length_append]
          have := ih (m / 10) (by rw [Nat.div_lt_iff_lt_mul (by omega)]; rw [Nat.pow_succ] at hm; omega)
          simp; omega
    have := key 19 n.natAbs (by omega)
    exact this
  have dig_in : ∀ c ∈ WM.dec n.natAbs, 48 ≤ c.toNat ∧ c.toNat ≤ 57 := by
    intro c hc
    have := List.all_eq_true.1 hd c hc
    simpa [WM.dig] using this
  have hall : ∀ c ∈ WM.textL n, 45 ≤ c.toNat ∧ c.toNat ≤ 57 := by
    intro c hc
    unfold WM.textL at hc
    split at hc
    · rcases List.mem_cons.1 hc with rfl | hc
      · decide
      · have := dig_in c hc; omega
    · have := dig_in c hc; omega
  refine ⟨?_, ?_, ?_, ?_⟩
  · unfold WM.textL
    split
    · simp
    · intro e; rw [e] at hl; simp at hl
  · unfold WM.textL
    split
    · rw [List.length_cons]; omega
    · omega
  · rw [List.all_eq_true]
    intro c hc
    have := hall c hc
    rw [WM.plain_true]; omega
  · intro hc
    have := hall _ hc
    simp at this
theorem word_field (b : Bool) : WM.fieldsE (word b) = 0 ∧ (WM.fieldsN (word b)).length = 1 := by
  rw [WM.one_field]; cases b <;> decide
theorem text_len (n : Int) (h : n.natAbs ≤ 4294967296) : (WM.textL n).length ≤ 21 := by
  have key : ∀ k m : Nat, m < 10 ^ (k + 1) → (WM.dec m).length ≤ k + 1 := by
    intro k
    induction k with
    | zero => intro m hm; rw [WM.dec_small (by simpa using hm)]; simp
    | succ k ih =>
      intro m hm
      by_cases h10 : m < 10
      · rw [WM.dec_small h10]; simp
      · rw [WM.dec_big h10, List.length_append]
        have := ih (m / 10) (by rw [Nat.div_lt_iff_lt_mul (by omega)]; rw [Nat.pow_succ] at hm; omega)
        simp; omega
  have := key 19 n.natAbs (by omega)
  unfold WM.textL
  split
  · rw [List.length_cons]; omega
  · omega
/-- a product that may be is read as it was printed -/
theorem par_print {p : Prod} (h : checkE p = 0) : parE (printL p) = 0 ∧ parN (printL p) = p := by
  obtain ⟨hn, hc, hm, ht, hl, _, _⟩ := check_parts h
  have nl : p.name.data.toList.length ≤ 12 := by
    unfold nameOk WM.name at hn
    simp only [Bool.and_eq_true, decide_eq_true_eq] at hn
    exact hn.2
  have hf : ∀ q ∈ fieldsOf p, WM.fieldsE q = 0 ∧ (WM.fieldsN q).length = 1 := by
    intro q hq
    simp only [fieldsOf, List.mem_cons, List.not_mem_nil, or_false] at hq
    rcases hq with rfl | rfl | rfl | rfl | rfl | rfl | rfl
    · exact WM.name_field hn
    · exact text_field _ (by omega)
    · exact text_field _ (by omega)
    · exact text_field _ (by omega)
    · exact text_field _ (by omega)
    · exact text_field _ (by omega)
    · exact word_field _
  have hlen : (WM.joinL (fieldsOf p)).length ≤ 512 := by
    have l1 := text_len p.cur (by omega)
    have l2 := text_len p.mult (by omega)
    have l3 := text_len p.tick (by omega)
    have l4 := text_len p.low (by omega)
    have l5 := text_len p.high (by omega)
    have nl2 : p.name.size ≤ 12 := by simpa using nl
    have l6 : (word p.phys).length ≤ 8 := by cases p.phys <;> decide
    simp [fieldsOf, WM.joinL]
    omega
  obtain ⟨e1, e2⟩ := WM.fields_join hf hlen
  have hint : ∀ n : Int, n.natAbs ≤ 4294967296 → WM.intE (WM.textL n) = 0 ∧ WM.intN (WM.textL n) = n := by
    intro n hn
    obtain ⟨a, b⟩ := WM.int_text n
    have hm : n.natAbs ≤ WM.most.natAbs := by unfold WM.most; omega
    rw [if_pos hm] at a
    exact ⟨a, b hm⟩
  obtain ⟨a1, b1⟩ := hint p.cur (by omega)
  obtain ⟨a2, b2⟩ := hint p.mult (by omega)
  obtain ⟨a3, b3⟩ := hint p.tick (by omega)
  obtain ⟨a4, b4⟩ := hint p.low (by omega)
  obtain ⟨a5, b5⟩ := hint p.high (by omega)
  have hform : form (fieldsOf p) := by
    refine ⟨rfl, ?_, a1, a2, a3, a4, a5⟩
    show word p.phys = cash ∨ word p.phys = physical
    cases p.phys
    · exact .inl rfl
    · exact .inr rfl
  have hprod : prodOf (fieldsOf p) = p := by
    have e6 : decide (word p.phys = physical) = p.phys := by cases p.phys <;> decide
    have e0 : (⟨(p.name.data.toList).toArray⟩ : ByteArray) = p.name := by simp
    show (⟨⟨(p.name.data.toList).toArray⟩, WM.intN (WM.textL p.cur), WM.intN (WM.textL p.mult), WM.intN (WM.textL p.tick), WM.intN (WM.textL p.low), WM.intN (WM.textL p.high), decide (word p.phys = physical)⟩ : Prod) = p
    rw [e0, b1, b2, b3, b4, b5, e6]
  have := par_ok (l := printL p) e1 (by unfold printL; rw [e2]; exact hform) (by unfold printL; rw [e2, hprod]; exact h)
  refine ⟨this.1, ?_⟩
  rw [this.2]
  unfold printL
  rw [e2, hprod]
/-- what is read is printed as the line -/
theorem print_par {l : List UInt8} (h : parE l = 0) : printL (parN l) = l ∧ checkE (parN l) = 0 := by
  obtain ⟨h1, ⟨h7, hw, i1, i2, i3, i4, i5⟩, h3, e⟩ := par_zero h
  rw [e]
  refine ⟨?_, h3⟩
  have hj := WM.join_fields h1
  generalize WM.fieldsN l = f at *
  have hf : fieldsOf (prodOf f) = f := by
    have hw2 : word (decide (fAt f 6 = physical)) = fAt f 6 := by
      by_cases g : fAt f 6 = physical
      · rw [decide_eq_true g, g]; rfl
      · rw [decide_eq_false g]
        rcases hw with hw | hw
        · rw [hw]; rfl
        · exact absurd hw g
    show [(⟨(fAt f 0).toArray⟩ : ByteArray).data.toList, WM.textL (WM.intN (fAt f 1)), WM.textL (WM.intN (fAt f 2)), WM.textL (WM.intN (fAt f 3)), WM.textL (WM.intN (fAt f 4)), WM.textL (WM.intN (fAt f 5)), word (decide (fAt f 6 = physical))] = f
    rw [WM.text_int i1, WM.text_int i2, WM.text_int i3, WM.text_int i4, WM.text_int i5, hw2]
    match f, h7 with
    | [a, b, c, d, e, g, k], _ => rfl
  unfold printL
  rw [hf]
  exact hj
end QM

/- Layer 10's mathematics: a series' text. -/
namespace EM
/-! texts cut at a point -/
theorem three_pieces {b : UInt8} {x y z : List UInt8} (hx : b ∉ x) (hy : b ∉ y) (hz : b ∉ z) : WM.pieces b (x ++ b :: (y ++ b :: z)) = [x, y, z] := by
  unfold WM.pieces WM.run
  rw [List.foldl_append, WM.foldl_in x hx, List.foldl_cons, List.foldl_append]
  have e1 : WM.step b ((([], []) : List (List UInt8) × List UInt8).1, (([], []) : List (List UInt8) × List UInt8).2 ++ x) b = ([x], []) := by simp [WM.step]
  rw [e1, WM.foldl_in y hy, List.foldl_cons]
  have e2 : WM.step b ((([x], []) : List (List UInt8) × List UInt8).1, (([x], []) : List (List UInt8) × List UInt8).2 ++ y) b = ([x, y], []) := by simp [WM.step]
  rw [e2, WM.foldl_in z hz]
  simp
/-- what the run has gone through -/
def flatB (b : UInt8) : List (List UInt8) → List UInt8
  | [] => []
  | p :: r => p ++ b :: flatB b r
theorem flatB_snoc (b : UInt8) (ps : List (List UInt8)) (q : List UInt8) : flatB b (ps ++ [q]) = flatB b ps ++ (q ++ [b]) := by
  induction ps with
  | nil => simp [flatB]
  | cons p ps ih => simp [flatB, ih]
theorem run_all (b : UInt8) (l : List UInt8) : flatB b (WM.run b l).1 ++ (WM.run b l).2 = l ∧ (∀ p ∈ (WM.run b l).1, b ∉ p) ∧ b ∉ (WM.run b l).2 := by
  induction l using WM.snoc_ind with
  | h0 => simp [WM.run_nil, flatB]
  | h1 l c ih =>
    obtain ⟨h1, h2, h3⟩ := ih
    by_cases h : c = b
    · subst h
      rw [WM.run_snoc_at]
      refine ⟨?_, ?_, by simp⟩
      · simp only
        rw [flatB_snoc, List.append_nil, ← List.append_assoc, h1]
      · intro p hp
        rcases List.mem_append.1 hp with hp | hp
        · exact h2 p hp
        · rw [List.mem_singleton.1 hp]; exact h3
    · rw [WM.run_snoc_in h]
      refine ⟨?_, h2, ?_⟩
      · simp only
        rw [← List.append_assoc, h1]
      · simp only [List.mem_append, List.mem_singleton]
        rintro (g | g)
        · exact h3 g
        · exact h g.symm
theorem pieces_three {b : UInt8} {l x y z : List UInt8} (h : WM.pieces b l = [x, y, z]) : l = x ++ b :: (y ++ b :: z) ∧ b ∉ x ∧ b ∉ y ∧ b ∉ z := by
  obtain ⟨h1, h2, h3⟩ := run_all b l
  unfold WM.pieces at h
  have h' : (WM.run b l).1 ++ [(WM.run b l).2] = [x, y] ++ [z] := h
  obtain ⟨e1, e2⟩ := List.append_inj' h' rfl
  injection e2 with e2
  rw [e1, e2] at h1
  rw [e1] at h2
  rw [e2] at h3
  refine ⟨?_, h2 x (by simp), h2 y (by simp), h3⟩
  rw [← h1]; simp [flatB]

/-! eight digits -/
def d8 (y m d : Int) : List UInt8 := [DM.ch (y / 1000), DM.ch (y / 100), DM.ch (y / 10), DM.ch y, DM.ch (m / 10), DM.ch m, DM.ch (d / 10), DM.ch d]
theorem dv_dval (c : UInt8) : WM.dval c = DM.dv c := rfl
theorem val8 (a b c d e f g h : UInt8) : WM.val [a, b, c, d, e, f, g, h] = 10000000 * DM.dv a + 1000000 * DM.dv b + 100000 * DM.dv c + 10000 * DM.dv d + 1000 * DM.dv e + 100 * DM.dv f + 10 * DM.dv g + DM.dv h := by
  unfold WM.val
  simp only [List.foldl_cons, List.foldl_nil, dv_dval]
  omega
theorem d8_val {y m d : Int} (hy : 0 ≤ y ∧ y ≤ 9999) (hm : 0 ≤ m ∧ m ≤ 99) (hd : 0 ≤ d ∧ d ≤ 99) : WM.val (d8 y m d) = 10000 * y + 100 * m + d := by
  unfold d8
  rw [val8]
  simp only [DM.ch_dv]
  omega
theorem isD_dig {c : UInt8} : WM.dig c = true ↔ DM.isD c := by unfold WM.dig DM.isD; simp
theorem eight {α : Type} (s : List α) (h : s.length = 8) : ∃ a b c d e f g k, s = [a, b, c, d, e, f, g, k] := by
  match s, h with
  | [a, b, c, d, e, f, g, k], _ => exact ⟨a, b, c, d, e, f, g, k, rfl⟩
theorem d8_of {l : List UInt8} (hl : l.length = 8) (ha : l.all WM.dig = true) : d8 (WM.val l / 10000) (WM.val l / 100 % 100) (WM.val l % 100) = l ∧ 0 ≤ WM.val l ∧ WM.val l ≤ 99999999 := by
  obtain ⟨a, b, c, d, e, f, g, k, rfl⟩ := eight l hl
  simp only [List.all_cons, List.all_nil, Bool.and_eq_true, Bool.and_true, isD_dig] at ha
  obtain ⟨ha, hb, hc, hd, he, hf, hg, hk⟩ := ha
  have ra := DM.dv_range ha
  have rb := DM.dv_range hb
  have rc := DM.dv_range hc
  have rd := DM.dv_range hd
  have re := DM.dv_range he
  have rf := DM.dv_range hf
  have rg := DM.dv_range hg
  have rk := DM.dv_range hk
  rw [val8]
  unfold d8
  refine ⟨?_, by omega, by omega⟩
  rw [DM.ch_of ha (by omega), DM.ch_of hb (by omega), DM.ch_of hc (by omega), DM.ch_of hd (by omega), DM.ch_of he (by omega), DM.ch_of hf (by omega), DM.ch_of hg (by omega), DM.ch_of hk (by omega)]
theorem d8_dig (y m d : Int) : (d8 y m d).length = 8 ∧ (d8 y m d).all WM.dig = true := by
  refine ⟨rfl, ?_⟩
  unfold d8
  simp only [List.all_cons, List.all_nil, Bool.and_eq_true, Bool.and_true, isD_dig]
  exact ⟨DM.ch_isD _, DM.ch_isD _, DM.ch_isD _, DM.ch_isD _, DM.ch_isD _, DM.ch_isD _, DM.ch_isD _, DM.ch_isD _⟩

/-! print -/
def may (s : Ser) : Prop := (1 ≤ s.kind ∧ s.kind ≤ 3) ∧ (0 ≤ s.expiry ∧ s.expiry ≤ 73048)
def tail (s : Ser) : List UInt8 := if s.kind = 1 then [102] else (if s.kind = 2 then 99 else 112) :: WM.textL s.strike
def txt (s : Ser) (y m d : Int) : List UInt8 := s.prod.data.toList ++ 46 :: (d8 y m d ++ 46 :: tail s)
open Classical in
noncomputable def printL (s : Ser) : List UInt8 :=
  if h : may s ∧ ∃ p : Int × Int × Int, DM.isDate s.expiry p.1 p.2.1 p.2.2 then txt s (Classical.choose h.2).1 (Classical.choose h.2).2.1 (Classical.choose h.2).2.2 else []
theorem print_is {s : Ser} {y m d : Int} (hk : 1 ≤ s.kind ∧ s.kind ≤ 3) (h : DM.isDate s.expiry y m d) : printL s = txt s y m d := by
  obtain ⟨_, _, _, r1, r2⟩ := DM.split_day h
  have hh : may s ∧ ∃ p : Int × Int × Int, DM.isDate s.expiry p.1 p.2.1 p.2.2 := ⟨⟨hk, r1, r2⟩, (y, m, d), h⟩
  unfold printL
  rw [dif_pos hh]
  obtain ⟨e1, e2, e3⟩ := DM.isDate_unique (Classical.choose_spec hh.2) h
  rw [e1, e2, e3]
theorem print_no {s : Ser} (h : ¬ may s) : printL s = [] := by
  unfold printL; rw [dif_neg (fun g => h g.1)]
theorem may_date {s : Ser} (h : may s) : ∃ y m d, DM.isDate s.expiry y m d := DM.isDate_exists h.2.1 h.2.2
theorem print_some {s : Ser} (h : may s) : printL s ≠ [] := by
  obtain ⟨y, m, d, hd⟩ := may_date h
  rw [print_is h.1 hd]
  unfold txt; simp

/-! parse -/
/-- three parts: a name, eight digits, and f or what begins with c or p -/
def form (ps : List (List UInt8)) : Prop := ∃ a b c, ps = [a, b, c] ∧ WM.name a = true ∧ (b.length = 8 ∧ b.all WM.dig = true) ∧ (c = [102] ∨ c.headD 0 = 99 ∨ c.headD 0 = 112)
def pA (t : List UInt8) : List UInt8 := (WM.pieces 46 t).getD 0 []
def pB (t : List UInt8) : List UInt8 := (WM.pieces 46 t).getD 1 []
def pC (t : List UInt8) : List UInt8 := (WM.pieces 46 t).getD 2 []
def yy (t : List UInt8) : Int := WM.val (pB t) / 10000
def mm (t : List UInt8) : Int := WM.val (pB t) / 100 % 100
def dd (t : List UInt8) : Int := WM.val (pB t) % 100
open Classical in
noncomputable def parE (t : List UInt8) : Int :=
  if form (WM.pieces 46 t) then
    if DM.ofE (yy t) (mm t) (dd t) ≠ 0 then 15 else if pC t = [102] then 0 else if WM.intE (pC t).tail ≠ 0 then WM.intE (pC t).tail else if (WM.intN (pC t).tail).natAbs ≤ 16777216 then 0 else 17
  else 5
open Classical in
noncomputable def parN (t : List UInt8) : Ser :=
  if parE t = 0 then ⟨⟨(pA t).toArray⟩, if pC t = [102] then 1 else if (pC t).headD 0 = 99 then 2 else 3, DM.ofN (yy t) (mm t) (dd t), if pC t = [102] then 0 else WM.intN (pC t).tail⟩ else zero
theorem par_form {t : List UInt8} (h : ¬ form (WM.pieces 46 t)) : parE t = 5 ∧ parN t = zero := by
  have e : parE t = 5 := by unfold parE; rw [if_neg h]
  exact ⟨e, by unfold parN; rw [e, if_neg (by decide)]⟩
theorem par_date {t : List UInt8} (h : form (WM.pieces 46 t)) (h2 : DM.ofE (yy t) (mm t) (dd t) ≠ 0) : parE t = 15 ∧ parN t = zero := by
  have e : parE t = 15 := by unfold parE; rw [if_pos h, if_pos h2]
  exact ⟨e, by unfold parN; rw [e, if_neg (by decide)]⟩
theorem par_future {t : List UInt8} (h : form (WM.pieces 46 t)) (h2 : DM.ofE (yy t) (mm t) (dd t) = 0) (h3 : pC t = [102]) : parE t = 0 ∧ parN t = ⟨⟨(pA t).toArray⟩, 1, DM.ofN (yy t) (mm t) (dd t), 0⟩ := by
  have e : parE t = 0 := by unfold parE; rw [if_pos h, if_neg (by simp [h2]), if_pos h3]
  exact ⟨e, by unfold parN; rw [if_pos e, if_pos h3, if_pos h3]⟩
theorem par_int {t : List UInt8} (h : form (WM.pieces 46 t)) (h2 : DM.ofE (yy t) (mm t) (dd t) = 0) (h3 : pC t ≠ [102]) (h4 : WM.intE (pC t).tail ≠ 0) : parE t = WM.intE (pC t).tail ∧ parN t = zero := by
  have e : parE t = WM.intE (pC t).tail := by unfold parE; rw [if_pos h, if_neg (by simp [h2]), if_neg h3, if_pos h4]
  exact ⟨e, by unfold parN; rw [e, if_neg h4]⟩
theorem par_price {t : List UInt8} (h : form (WM.pieces 46 t)) (h2 : DM.ofE (yy t) (mm t) (dd t) = 0) (h3 : pC t ≠ [102]) (h4 : WM.intE (pC t).tail = 0) (h5 : ¬ (WM.intN (pC t).tail).natAbs ≤ 16777216) : parE t = 17 ∧ parN t = zero := by
  have e : parE t = 17 := by unfold parE; rw [if_pos h, if_neg (by simp [h2]), if_neg h3, if_neg (by simp [h4]), if_neg h5]
  exact ⟨e, by unfold parN; rw [e, if_neg (by decide)]⟩
theorem par_option {t : List UInt8} (h : form (WM.pieces 46 t)) (h2 : DM.ofE (yy t) (mm t) (dd t) = 0) (h3 : pC t ≠ [102]) (h4 : WM.intE (pC t).tail = 0) (h5 : (WM.intN (pC t).tail).natAbs ≤ 16777216) :
    parE t = 0 ∧ parN t = ⟨⟨(pA t).toArray⟩, if (pC t).headD 0 = 99 then 2 else 3, DM.ofN (yy t) (mm t) (dd t), WM.intN (pC t).tail⟩ := by
  have e : parE t = 0 := by unfold parE; rw [if_pos h, if_neg (by simp [h2]), if_neg h3, if_neg (by simp [h4]), if_pos h5]
  exact ⟨e, by unfold parN; rw [if_pos e, if_neg h3, if_neg h3]⟩

/-- what is parsed is printed as it was -/
theorem print_par {t : List UInt8} (h : parE t = 0) : printL (parN t) = t := by
  by_cases hf : form (WM.pieces 46 t)
  · by_cases hd : DM.ofE (yy t) (mm t) (dd t) = 0
    · obtain ⟨a, b, c, hp, hn, ⟨hb8, hbd⟩, hc⟩ := hf
      have hf' : form (WM.pieces 46 t) := ⟨a, b, c, hp, hn, ⟨hb8, hbd⟩, hc⟩
      have eA : pA t = a := by unfold pA; rw [hp]; rfl
      have eB : pB t = b := by unfold pB; rw [hp]; rfl
      have eC : pC t = c := by unfold pC; rw [hp]; rfl
      obtain ⟨e8, v0, v1⟩ := d8_of hb8 hbd
      have ok : DM.okDate (yy t) (mm t) (dd t) := by
        unfold DM.ofE at hd
        split at hd
        · assumption
        · cases hd
      have hdate : DM.isDate (DM.ofN (yy t) (mm t) (dd t)) (yy t) (mm t) (dd t) := by
        refine ⟨ok, ?_⟩
        unfold DM.ofN; rw [if_pos ok]
      have e8' : d8 (yy t) (mm t) (dd t) = b := by unfold yy mm dd; rw [eB]; exact e8
      obtain ⟨ht, _, _, _⟩ := pieces_three hp
      by_cases h3 : pC t = [102]
      · obtain ⟨_, e⟩ := par_future hf' hd h3
        rw [e, print_is (y := yy t) (m := mm t) (d := dd t) (by simp) hdate]
        unfold txt tail
        rw [e8', eA]
        rw [eC] at h3
        simp only [if_true]
        rw [ht, h3]
      · by_cases h4 : WM.intE (pC t).tail = 0
        · by_cases h5 : (WM.intN (pC t).tail).natAbs ≤ 16777216
          · obtain ⟨_, e⟩ := par_option hf' hd h3 h4 h5
            have hk : ∀ k : Int, k = (if (pC t).headD 0 = 99 then 2 else 3) → 1 ≤ k ∧ k ≤ 3 := by intro k hk; subst hk; split <;> omega
            rw [e, print_is (y := yy t) (m := mm t) (d := dd t) (hk _ rfl) hdate]
            unfold txt tail
            rw [e8', eA]
            simp only
            rw [WM.text_int h4]
            have hne : ¬ ((if (pC t).headD 0 = 99 then (2 : Int) else 3) = 1) := by split <;> omega
            rw [if_neg hne]
            have hcc : (if (if (pC t).headD 0 = 99 then (2 : Int) else 3) = 2 then (99 : UInt8) else 112) :: (pC t).tail = c := by
              rw [eC] at h3 ⊢
              rcases hc with hc | hc | hc
              · exact absurd hc h3
              · cases c with
                | nil => simp at hc
                | cons x r =>
                  simp at hc
                  subst hc
                  simp
              · cases c with
                | nil => simp at hc
                | cons x r =>
                  simp at hc
                  subst hc
                  simp
            rw [hcc, ht]
          · rw [(par_price hf' hd h3 h4 h5).1] at h; cases h
        · rw [(par_int hf' hd h3 h4).1] at h; exact absurd h h4
    · rw [(par_date hf hd).1] at h; cases h
  · rw [(par_form hf).1] at h; cases h

theorem no_point_name {l : List UInt8} (h : WM.name l = true) : (46 : UInt8) ∉ l := by
  intro hm
  unfold WM.name at h
  simp only [Bool.and_eq_true] at h
  have := List.all_eq_true.1 h.1.1 _ hm
  revert this; decide
theorem no_point_dig {l : List UInt8} (h : l.all WM.dig = true) : (46 : UInt8) ∉ l := by
  intro hm
  have := List.all_eq_true.1 h _ hm
  revert this; decide
theorem no_point_text (n : Int) : (46 : UInt8) ∉ WM.textL n := by
  have := no_point_dig (WM.dec_dig n.natAbs)
  unfold WM.textL
  split
  · simp only [List.mem_cons, not_or]; exact ⟨by decide, this⟩
  · exact this
/-- what can be printed is parsed as it was -/
theorem par_print {s : Ser} (h : may s) (hn : WM.name s.prod.data.toList = true) (hs : -16777216 ≤ s.strike ∧ s.strike ≤ 16777216) (hf : s.kind = 1 → s.strike = 0) : parE (printL s) = 0 ∧ parN (printL s) = s := by
  obtain ⟨y, m, d, hd⟩ := may_date h
  obtain ⟨ok, hday⟩ := hd
  have okd := ok
  obtain ⟨y1, y2, m1, m2, d1, d2⟩ := ok
  have dr := DM.dim_range y m
  rw [print_is h.1 ⟨okd, hday⟩]
  obtain ⟨g8, gd⟩ := d8_dig y m d
  have ht : (46 : UInt8) ∉ tail s := by
    unfold tail
    split
    · decide
    · simp only [List.mem_cons, not_or]
      exact ⟨by split <;> decide, no_point_text _⟩
  have hp : WM.pieces 46 (txt s y m d) = [s.prod.data.toList, d8 y m d, tail s] := three_pieces (no_point_name hn) (no_point_dig gd) ht
  have hform : form (WM.pieces 46 (txt s y m d)) := by
    refine ⟨_, _, _, hp, hn, ⟨g8, gd⟩, ?_⟩
    unfold tail
    by_cases k1 : s.kind = 1
    · rw [if_pos k1]; exact .inl rfl
    · rw [if_neg k1]
      by_cases k2 : s.kind = 2
      · rw [if_pos k2]; exact .inr (.inl rfl)
      · rw [if_neg k2]; exact .inr (.inr rfl)
  have eA : pA (txt s y m d) = s.prod.data.toList := by unfold pA; rw [hp]; rfl
  have eB : pB (txt s y m d) = d8 y m d := by unfold pB; rw [hp]; rfl
  have eC : pC (txt s y m d) = tail s := by unfold pC; rw [hp]; rfl
  have ev := d8_val (y := y) (m := m) (d := d) ⟨by omega, by omega⟩ ⟨by omega, by omega⟩ ⟨by omega, by omega⟩
  have ey : yy (txt s y m d) = y := by unfold yy; rw [eB, ev]; omega
  have em : mm (txt s y m d) = m := by unfold mm; rw [eB, ev]; omega
  have ed : dd (txt s y m d) = d := by unfold dd; rw [eB, ev]; omega
  have hE : DM.ofE (yy (txt s y m d)) (mm (txt s y m d)) (dd (txt s y m d)) = 0 := by rw [ey, em, ed]; unfold DM.ofE; rw [if_pos okd]
  have hN : DM.ofN (yy (txt s y m d)) (mm (txt s y m d)) (dd (txt s y m d)) = s.expiry := by rw [ey, em, ed]; unfold DM.ofN; rw [if_pos okd, hday]
  have e0 : (⟨(s.prod.data.toList).toArray⟩ : ByteArray) = s.prod := by simp
  by_cases k1 : s.kind = 1
  · have hC : pC (txt s y m d) = [102] := by rw [eC]; unfold tail; rw [if_pos k1]
    obtain ⟨e1, e2⟩ := par_future hform hE hC
    refine ⟨e1, ?_⟩
    rw [e2, eA, hN, e0]
    have := hf k1
    cases s
    simp_all
  · have htail : tail s = (if s.kind = 2 then 99 else 112) :: WM.textL s.strike := by unfold tail; rw [if_neg k1]
    have hC : pC (txt s y m d) ≠ [102] := by
      rw [eC, htail]
      intro e
      injection e with e
      revert e
      split <;> decide
    have hrest : (pC (txt s y m d)).tail = WM.textL s.strike := by rw [eC, htail]; rfl
    obtain ⟨i1, i2⟩ := WM.int_text s.strike
    have hm : s.strike.natAbs ≤ WM.most.natAbs := by unfold WM.most; omega
    rw [if_pos hm] at i1
    have i3 := i2 hm
    obtain ⟨e1, e2⟩ := par_option hform hE hC (by rw [hrest]; exact i1) (by rw [hrest, i3]; omega)
    refine ⟨e1, ?_⟩
    rw [e2, eA, hN, e0, hrest, i3]
    have hk : (if (pC (txt s y m d)).headD 0 = 99 then (2 : Int) else 3) = s.kind := by
      rw [eC, htail]
      obtain ⟨⟨a1, a2⟩, _⟩ := h
      by_cases k2 : s.kind = 2
      · simp [k2]
      · have : s.kind = 3 := by omega
        simp [this]
    rw [hk]
end EM
