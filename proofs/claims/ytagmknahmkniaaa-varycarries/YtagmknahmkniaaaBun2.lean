/- Put together: RateMath, WordMath, WordMath2, WordMath3, OrderMath, ProductMath. -/
import Derived.Test.YtagmknahmkniaaaBun1
import Derived.Below
/- What conversions by two rates do: there and back; more is no less. -/
namespace CM
set_option linter.unusedVariables false

/-- both rates above nought: the sign is the amount's -/
theorem neg_of {a b c : Int} (hb : 0 < b) (hc : 0 < c) : neg a b c = decide (a < 0) := by
  unfold neg
  rw [decide_eq_false (show ¬ b < 0 by omega), decide_eq_false (show ¬ c < 0 by omega)]
  cases decide (a < 0) <;> rfl
theorem size_of {b : Int} (hb : 0 < b) : size b = b := by unfold size; rw [if_neg (by omega)]
/-- an amount's errors: of what may be asked, only that it is too great -/
theorem md_err {a b c mode : Int} (ha : fits a = true) (hb : fits b = true) (hc : fits c = true) (h0 : c ≠ 0) (h1 : 1 ≤ mode) (h5 : mode ≤ 5) : mdE a b c mode ≠ 0 → mdN a b c mode = 0 ∧ mdE a b c mode = 3 := by
  have hA : mdA a b c mode = true := by simp [mdA, ha, hb, hc, h1, h5]
  intro h
  by_cases hg : mdG a b c mode ≤ 1152921504606846976
  · exfalso; apply h; simp [mdE, hA, h0, hg]
  · simp [mdN, mdE, hA, h0, hg]
theorem down_q (a b c : Int) : mdG a b c 1 = mdQ a b c := by unfold mdG; simp [grow]
/-- there and back, by Down -/
theorem there_back {n f t : Int} (hn : fits n = true) (hf : 0 < f) (ht : 0 < t) (ff : fits f = true) (ft : fits t = true) (he : mdE n f t 1 = 0) :
    mdE (mdN n f t 1) t f 1 = 0 ∧
      ((n < 0 → mdN (mdN n f t 1) t f 1 ≤ 0 ∧ n ≤ mdN (mdN n f t 1) t f 1 ∧ mdN n f t 1 ≤ 0) ∧ (0 ≤ n → 0 ≤ mdN (mdN n f t 1) t f 1 ∧ mdN (mdN n f t 1) t f 1 ≤ n ∧ 0 ≤ mdN n f t 1)) := by
  obtain ⟨_, _, hg, hm⟩ := md_ok he
  rw [down_q] at hg hm
  rw [neg_of hf ht] at hm
  have q0 := mdQ_nonneg n f t
  -- sizes
  have hs : size (mdN n f t 1) = mdQ n f t := by
    rw [hm]
    by_cases h : n < 0
    · simp only [h, decide_true, if_true]; unfold size; split <;> omega
    · simp only [h, decide_false, Bool.false_eq_true, if_false]; unfold size; split <;> omega
  have hmf : fits (mdN n f t 1) = true := by
    rw [fits_true, hm]
    split <;> omega
  have hle : mdQ n f t * t.toNat ≤ (size n).toNat * f.toNat := by
    unfold mdQ
    rw [size_of hf, size_of ht]
    exact Nat.div_mul_le_self _ _
  have hq2 : mdQ (mdN n f t 1) t f ≤ (size n).toNat := by
    have e : mdQ (mdN n f t 1) t f = (mdQ n f t) * t.toNat / f.toNat := by
      show (size (mdN n f t 1)).toNat * (size t).toNat / (size f).toNat = _
      rw [hs, size_of hf, size_of ht]; rfl
    rw [e]
    have h1 : mdQ n f t * t.toNat / f.toNat ≤ (size n).toNat * f.toNat / f.toNat := Nat.div_le_div_right hle
    rw [Nat.mul_div_cancel _ (by omega)] at h1
    exact h1
  obtain ⟨n1, n2⟩ := fits_true.1 hn
  have hsn := size_le n1 n2
  have hsn0 := size_nonneg n
  have hA2 : mdA (mdN n f t 1) t f 1 = true := by simp [mdA, hmf, ff, ft]
  have hg2 : mdG (mdN n f t 1) t f 1 ≤ 1152921504606846976 := by rw [down_q]; omega
  have e2 : mdE (mdN n f t 1) t f 1 = 0 := by simp [mdE, hA2, show f ≠ 0 by omega, hg2]
  obtain ⟨_, _, _, hb⟩ := md_ok e2
  rw [down_q, neg_of ht hf] at hb
  have q2 := mdQ_nonneg (mdN n f t 1) t f
  generalize mdQ (mdN n f t 1) t f = Q2 at *
  generalize mdQ n f t = Q at *
  have hz : n < 0 → size n = -n := fun h => by unfold size; rw [if_pos h]
  have hz2 : 0 ≤ n → size n = n := fun h => by unfold size; rw [if_neg (by omega)]
  refine ⟨e2, fun h => ?_, fun h => ?_⟩
  · rw [hb]
    simp only [h, decide_true, if_true] at hm
    have := hz h
    rw [hm]
    by_cases c : (-(Q : Int)) < 0
    · simp only [c, decide_true, if_true]; omega
    · have hQ : Q = 0 := by omega
      subst hQ
      have : mdN n f t 1 = 0 := by rw [hm]; rfl
      simp only [c, decide_false, Bool.false_eq_true, if_false]
      -- nought turned back is nought
      have hbz : size (mdN n f t 1) = 0 := by rw [this]; rfl
      rw [this] at hb
      have hq0 : mdN 0 t f 1 = Q2 := by rw [hb]; rfl
      have hq1 : mdQ 0 t f = 0 := by unfold mdQ; simp [size]
      have := (md_ok (a := 0) (b := t) (c := f) (mode := 1) (by rw [‹mdN n f t 1 = 0›] at e2; exact e2)).2.2.2
      rw [down_q, hq1, neg_of ht hf] at this
      have h00 : mdN 0 t f 1 = 0 := by rw [this]; rfl
      omega
  · rw [hb]
    have hnn : ¬ n < 0 := by omega
    simp only [hnn, decide_false, Bool.false_eq_true, if_false] at hm
    have := hz2 h
    rw [hm]
    have c : ¬ ((Q : Int) < 0) := by omega
    simp only [c, decide_false, Bool.false_eq_true, if_false]
    omega

theorem grow_mono {q r r' c mode : Int} {n : Bool} (h0 : 0 ≤ r) (h : r ≤ r') (hg : grow q r c mode n = true) : grow q r' c mode n = true := by
  unfold grow at hg ⊢
  by_cases hr : r = 0
  · rw [if_pos hr] at hg; cases hg
  · rw [if_neg hr] at hg
    rw [if_neg (by omega)]
    by_cases h2 : mode = 2
    · rw [if_pos h2]
    · rw [if_neg h2] at hg ⊢
      by_cases h3 : mode = 3
      · rw [if_pos h3] at hg ⊢; exact hg
      · rw [if_neg h3] at hg ⊢
        by_cases h4 : mode = 4
        · rw [if_pos h4] at hg ⊢; exact hg
        · rw [if_neg h4] at hg ⊢
          by_cases h5 : mode = 5
          · rw [if_pos h5] at hg ⊢
            simp only [Bool.or_eq_true, Bool.and_eq_true, decide_eq_true_eq] at hg ⊢
            rcases hg with g | ⟨g1, g2⟩
            · left; omega
            · by_cases e : 2 * r' = c
              · right; exact ⟨e, g2⟩
              · left; omega
          · rw [if_neg h5] at hg; cases hg
/-- of two amounts of one sign the greater one's quotient is not less -/
theorem g_mono {a a' b c mode : Int} (hb : 0 < b) (hc : 0 < c) (hs : size a ≤ size a') (hn : neg a b c = neg a' b c) : mdG a b c mode ≤ mdG a' b c mode := by
  have h0 := size_nonneg a
  have hN : (size a).toNat * (size b).toNat ≤ (size a').toNat * (size b).toNat := Nat.mul_le_mul_right _ (by omega)
  have hcn : 0 < (size c).toNat := by rw [size_of hc]; omega
  have hq : mdQ a b c ≤ mdQ a' b c := Nat.div_le_div_right hN
  have e1 : (size c).toNat * mdQ a b c + mdR a b c = (size a).toNat * (size b).toNat := Nat.div_add_mod _ _
  have e2 : (size c).toNat * mdQ a' b c + mdR a' b c = (size a').toNat * (size b).toNat := Nat.div_add_mod _ _
  unfold mdG
  rw [← hn]
  rcases Nat.lt_or_ge (mdQ a b c) (mdQ a' b c) with g | g
  · split <;> split <;> omega
  · have he : mdQ a b c = mdQ a' b c := by omega
    rw [← he] at e2 ⊢
    have hr : (mdR a b c : Int) ≤ mdR a' b c := by omega
    by_cases hg : grow (mdQ a b c) (mdR a b c) (size c) mode (neg a b c) = true
    · rw [if_pos hg, if_pos (grow_mono (Int.natCast_nonneg _) hr hg)]; exact Int.le_refl _
    · rw [if_neg hg]; split <;> omega
theorem g_nonneg (a b c mode : Int) : 0 ≤ mdG a b c mode := by
  have := mdQ_nonneg a b c
  unfold mdG; split <;> omega
/-- more is turned into no less -/
theorem md_rises {a a' b c mode : Int} (hb : 0 < b) (hc : 0 < c) (h : a ≤ a') (e : mdE a b c mode = 0) (e' : mdE a' b c mode = 0) : mdN a b c mode ≤ mdN a' b c mode := by
  obtain ⟨_, _, _, h1⟩ := md_ok e
  obtain ⟨_, _, _, h2⟩ := md_ok e'
  rw [h1, h2]
  have g1 := g_nonneg a b c mode
  have g2 := g_nonneg a' b c mode
  have n1 := neg_of (a := a) hb hc
  have n2 := neg_of (a := a') hb hc
  by_cases s1 : a < 0
  · by_cases s2 : a' < 0
    · have hg := g_mono (a := a') (a' := a) (b := b) (c := c) (mode := mode) hb hc (by unfold size; rw [if_pos s1, if_pos s2]; omega) (by rw [n1, n2]; simp [s1, s2])
      rw [n1, n2]
      simp only [s1, s2, decide_true, if_true]
      omega
    · rw [n1, n2]
      simp only [s1, s2, decide_true, decide_false, if_true, Bool.false_eq_true, if_false]
      omega
  · have s2 : ¬ a' < 0 := by omega
    have hg := g_mono (a := a) (a' := a') (b := b) (c := c) (mode := mode) hb hc (by unfold size; rw [if_neg s1, if_neg s2]; omega) (by rw [n1, n2]; simp [s1, s2])
    rw [n1, n2]
    simp only [s1, s2, decide_false, Bool.false_eq_true, if_false]
    omega
end CM

/- Texts as lists of bytes: names, digits, numbers and how they are written. -/
namespace WM

def dig (c : UInt8) : Bool := decide (48 ≤ c.toNat) && decide (c.toNat ≤ 57)
def letter (c : UInt8) : Bool := decide (97 ≤ c.toNat) && decide (c.toNat ≤ 122)
def most : Int := 1152921504606846976
/-- is it a name -/
def name (l : List UInt8) : Bool := l.all (fun c => letter c || dig c) && letter (l.headD 0) && decide (l.length ≤ 12)
/-- digits alone, no nought ahead -/
def digits (l : List UInt8) : Bool := l.all dig && (l.length == 1 || (decide (1 < l.length) && l.headD 0 != 48))
def dval (c : UInt8) : Int := (c.toNat : Int) - 48
/-- the number that digits write -/
def val (l : List UInt8) : Int := l.foldl (fun n c => 10 * n + dval c) 0
/-- the same, but that it stops above the greatest -/
def sval (l : List UInt8) : Int := l.foldl (fun n c => if 115292150460684697 < n then most + 1 else 10 * n + dval c) 0
def cut (l : List UInt8) : List UInt8 := if l.headD 0 == 45 then l.tail else l
def below (l : List UInt8) : Bool := l.headD 0 == 45
def signE (v : Int) (b : Bool) : Int := if b = true ∧ v = 0 then 5 else if most < v then 3 else 0
def signN (v : Int) (b : Bool) : Int := if b = true ∧ v = 0 then 0 else if most < v then 0 else if b = true then -v else v
def intE (l : List UInt8) : Int := if digits (cut l) = true then signE (val (cut l)) (below l) else 5
def intN (l : List UInt8) : Int := if digits (cut l) = true then signN (val (cut l)) (below l) else 0
/-- the digits of a number -/
def dec (n : Nat) : List UInt8 := if h : n < 10 then [UInt8.ofNat (48 + n)] else dec (n / 10) ++ [UInt8.ofNat (48 + n % 10)]
termination_by n
decreasing_by omega

theorem take_snoc (l : List UInt8) (k : Nat) (h : k < l.length) : l.take (k + 1) = l.take k ++ [l[k]] := List.take_succ_eq_append_getElem h
theorem all_snoc (p : UInt8 → Bool) (l : List UInt8) (c : UInt8) : (l ++ [c]).all p = (l.all p && p c) := by simp
theorem all_take {p : UInt8 → Bool} {l : List UInt8} (h : l.all p = true) (k : Nat) : (l.take k).all p = true := by
  rw [List.all_eq_true] at *
  exact fun x hx => h x (List.mem_of_mem_take hx)
theorem all_get {p : UInt8 → Bool} {l : List UInt8} (h : l.all p = true) (k : Nat) (hk : k < l.length) : p l[k] = true := List.all_eq_true.1 h _ (List.getElem_mem hk)
theorem not_all {p : UInt8 → Bool} {l : List UInt8} (k : Nat) (hk : k < l.length) (h : p l[k] = false) : l.all p = false := by
  rw [Bool.eq_false_iff]
  intro a
  rw [all_get a k hk] at h
  exact absurd h (by simp)
theorem dig_true {c : UInt8} : dig c = true ↔ 48 ≤ (c.toNat : Int) ∧ (c.toNat : Int) ≤ 57 := by unfold dig; simp; omega
theorem dig_false {c : UInt8} : dig c = false ↔ (c.toNat : Int) < 48 ∨ 57 < (c.toNat : Int) := by rw [Bool.eq_false_iff, ne_eq, dig_true]; omega
theorem letter_true {c : UInt8} : letter c = true ↔ 97 ≤ (c.toNat : Int) ∧ (c.toNat : Int) ≤ 122 := by unfold letter; simp; omega
theorem letter_false {c : UInt8} : letter c = false ↔ (c.toNat : Int) < 97 ∨ 122 < (c.toNat : Int) := by rw [Bool.eq_false_iff, ne_eq, letter_true]; omega
theorem dval_range {c : UInt8} (h : dig c = true) : 0 ≤ dval c ∧ dval c ≤ 9 := by have := dig_true.1 h; unfold dval; omega

theorem val_snoc (l : List UInt8) (c : UInt8) : val (l ++ [c]) = 10 * val l + dval c := by simp [val]
theorem sval_snoc (l : List UInt8) (c : UInt8) : sval (l ++ [c]) = if 115292150460684697 < sval l then most + 1 else 10 * sval l + dval c := by unfold sval; rw [List.foldl_append]; rfl
theorem snoc_ind {P : List UInt8 → Prop} (h0 : P []) (h1 : ∀ l c, P l → P (l ++ [c])) (l : List UInt8) : P l := by
  have : ∀ n, ∀ l : List UInt8, l.length = n → P l := by
    intro n
    induction n with
    | zero => intro l h; rw [List.length_eq_zero_iff.1 h]; exact h0
    | succ n ih =>
      intro l h
      have hne : l ≠ [] := by intro e; rw [e] at h; simp at h
      rw [← List.dropLast_concat_getLast hne]
      exact h1 _ _ (ih _ (by simp [h]))
  exact this _ l rfl
theorem val_nonneg {l : List UInt8} (h : l.all dig = true) : 0 ≤ val l := by
  induction l using snoc_ind with
  | h0 => simp [val]
  | h1 l c ih =>
    rw [all_snoc, Bool.and_eq_true] at h
    have := ih h.1
    have := dval_range h.2
    rw [val_snoc]; omega
/-- below the greatest they are one -/
theorem sval_val {l : List UInt8} (h : l.all dig = true) : (0 ≤ sval l ∧ sval l ≤ 1152921504606846979) ∧ (val l ≤ most → sval l = val l) ∧ (most < val l → most < sval l) := by
  induction l using snoc_ind with
  | h0 => simp [val, sval, most]
  | h1 l c ih =>
    rw [all_snoc, Bool.and_eq_true] at h
    obtain ⟨⟨a0, a1⟩, a2, a3⟩ := ih h.1
    have hv := val_nonneg h.1
    have hd := dval_range h.2
    rw [val_snoc, sval_snoc]
    unfold most at *
    by_cases c1 : 115292150460684697 < sval l
    · rw [if_pos c1]
      by_cases c2 : val l ≤ 1152921504606846976
      · have := a2 c2; omega
      · omega
    · rw [if_neg c1]
      by_cases c2 : val l ≤ 1152921504606846976
      · have := a2 c2; omega
      · have := a3 (by omega); omega
theorem sign_sval {l : List UInt8} (h : l.all dig = true) (b : Bool) : signE (sval l) b = signE (val l) b ∧ signN (sval l) b = signN (val l) b := by
  obtain ⟨⟨a0, a1⟩, a2, a3⟩ := sval_val h
  by_cases c : val l ≤ most
  · rw [a2 c]; exact ⟨rfl, rfl⟩
  · have c' : most < val l := by omega
    have c2 := a3 c'
    have z1 : val l ≠ 0 := by unfold most at *; omega
    have z2 : sval l ≠ 0 := by unfold most at *; omega
    simp [signE, signN, c', c2, z1, z2]
theorem dec_length (n : Nat) : 1 ≤ (dec n).length := by
  unfold dec
  split <;> simp
theorem dec_small {n : Nat} (h : n < 10) : dec n = [UInt8.ofNat (48 + n)] := by rw [dec]; simp [h]
theorem dec_big {n : Nat} (h : ¬ n < 10) : dec n = dec (n / 10) ++ [UInt8.ofNat (48 + n % 10)] := by rw [dec]; simp [h]
theorem dval_of (d : Nat) (h : d < 10) : dval (UInt8.ofNat (48 + d)) = d := by
  unfold dval
  rw [UInt8.toNat_ofNat']
  omega
theorem dig_of (d : Nat) (h : d < 10) : dig (UInt8.ofNat (48 + d)) = true := by
  rw [dig_true, UInt8.toNat_ofNat']
  omega
theorem dec_dig (n : Nat) : (dec n).all dig = true := by
  induction n using dec.induct with
  | case1 n h => rw [dec_small h, List.all_cons, dig_of n h]; rfl
  | case2 n h ih => rw [dec_big h, all_snoc, ih, dig_of _ (by omega)]; rfl
theorem dec_val (n : Nat) : val (dec n) = n := by
  induction n using dec.induct with
  | case1 n h => rw [dec_small h]; show 10 * 0 + dval _ = _; rw [dval_of n h]; omega
  | case2 n h ih => rw [dec_big h, val_snoc, ih, dval_of _ (by omega)]; omega
theorem dec_head (n : Nat) (hn : 0 < n) : (dec n).headD 0 ≠ 48 := by
  induction n using dec.induct with
  | case1 n h =>
    rw [dec_small h]
    intro e
    have := congrArg UInt8.toNat e
    rw [List.headD_cons, UInt8.toNat_ofNat'] at this
    have h48 : (48 : UInt8).toNat = 48 := rfl
    omega
  | case2 n h ih =>
    have e := ih (by omega)
    rw [dec_big h]
    have hl := dec_length (n / 10)
    cases hd : dec (n / 10) with
    | nil => rw [hd] at hl; simp at hl
    | cons a t => rw [hd] at e; simpa using e
theorem dec_digits (n : Nat) : digits (dec n) = true := by
  unfold digits
  rw [dec_dig]
  by_cases h : n < 10
  · rw [dec_small h]; simp
  · have h1 := dec_head n (by omega)
    have hl : 1 < (dec n).length := by
      rw [dec_big h]; have := dec_length (n / 10); simp; omega
    rw [(bne_iff_ne).2 h1, decide_eq_true hl]
    simp
/-- there is one way to write a number -/
theorem dec_of {l : List UInt8} (h : digits l = true) : dec (val l).toNat = l := by
  have hd : l.all dig = true := by unfold digits at h; simp only [Bool.and_eq_true] at h; exact h.1
  have key : ∀ l : List UInt8, l.all dig = true → l ≠ [] → (l.length = 1 ∨ l.headD 0 ≠ 48) → dec (val l).toNat = l := by
    intro l
    induction l using snoc_ind with
    | h0 => exact fun _ h => absurd rfl h
    | h1 l c ih =>
    intro h _ h2
    rw [all_snoc, Bool.and_eq_true] at h
    have hc := dig_true.1 h.2
    have hr := dval_range h.2
    have hof : UInt8.ofNat (48 + (dval c).toNat) = c := by
      have : 48 + (dval c).toNat = c.toNat := by unfold dval at *; omega
      rw [this]; simp
    cases hl : l with
    | nil =>
      have e : val ([] ++ [c]) = dval c := by simp [val]
      rw [e, dec_small (by omega), hof]
      rfl
    | cons a t =>
      rw [← hl]
      have hne : l ≠ [] := by rw [hl]; simp
      have hh : l.headD 0 ≠ 48 := by
        rcases h2 with h2 | h2
        · rw [hl] at h2; simp at h2
        · rw [hl] at h2 ⊢; simpa using h2
      have e := ih h.1 hne (Or.inr hh)
      have hpos : 0 < val l := by
        rcases Int.lt_or_eq_of_le (val_nonneg h.1) with p | p
        · exact p
        · rw [← p] at e
          have : dec (0 : Int).toNat = [48] := by rw [dec_small (by decide)]; rfl
          rw [this] at e
          rw [← e] at hh
          exact absurd rfl hh
      rw [val_snoc]
      have e1 : (10 * val l + dval c).toNat / 10 = (val l).toNat := by omega
      have e2 : (10 * val l + dval c).toNat % 10 = (dval c).toNat := by omega
      rw [dec_big (by omega), e1, e2, e, hof]
  unfold digits at h
  simp only [Bool.and_eq_true, Bool.or_eq_true, beq_iff_eq, decide_eq_true_eq, bne_iff_ne, ne_eq] at h
  refine key l hd ?_ ?_
  · intro e; rw [e] at h; simp at h
  · rcases h.2 with h | h
    · exact Or.inl h
    · exact Or.inr h.2
end WM

/- Numbers and money as texts: read as they were written, written as they were read. -/
namespace WM

/-- how a number is written -/
def textL (n : Int) : List UInt8 := if n < 0 then 45 :: dec n.natAbs else dec n.natAbs
/-- money without its sign -/
def money (a : Nat) : List UInt8 := dec (a / 100) ++ [46, UInt8.ofNat (48 + a / 10 % 10), UInt8.ofNat (48 + a % 10)]
def moneyL (n : Int) : List UInt8 := if n < 0 then 45 :: money n.natAbs else money n.natAbs
/-- is it money, without a sign -/
def cok (m : List UInt8) : Bool := decide (4 ≤ m.length) && (m.getD (m.length - 3) 0 == 46) && digits (m.take (m.length - 3)) && (m.drop (m.length - 2)).all dig
def cval (m : List UInt8) : Int := val (m.take (m.length - 3) ++ m.drop (m.length - 2))
def centsE (l : List UInt8) : Int := if cok (cut l) = true then signE (cval (cut l)) (below l) else 5
def centsN (l : List UInt8) : Int := if cok (cut l) = true then signN (cval (cut l)) (below l) else 0

theorem digits_all {l : List UInt8} (h : digits l = true) : l.all dig = true := by unfold digits at h; simp only [Bool.and_eq_true] at h; exact h.1
theorem digits_ne {l : List UInt8} (h : digits l = true) : 1 ≤ l.length := by
  cases l with
  | nil => simp [digits] at h
  | cons a t => simp
theorem dig_ne45 {c : UInt8} (h : dig c = true) : c ≠ 45 := by
  rintro rfl
  exact absurd h (by decide)
theorem head_ne45 {l : List UInt8} (h : l.all dig = true) (hl : 1 ≤ l.length) (t : List UInt8) : ((l ++ t).headD 0 == 45) = false := by
  cases l with
  | nil => simp at hl
  | cons a l =>
    rw [List.all_cons, Bool.and_eq_true] at h
    simpa using dig_ne45 h.1
theorem cut_plain {l : List UInt8} (h : (l.headD 0 == 45) = false) : cut l = l ∧ below l = false := by
  unfold cut below
  rw [h]; simp
theorem cut_minus (l : List UInt8) : cut (45 :: l) = l ∧ below (45 :: l) = true := by simp [cut, below]
theorem of_below {l : List UInt8} (h : below l = true) : l = 45 :: cut l := by
  unfold below at h
  cases l with
  | nil => simp at h
  | cons a t =>
    have : a = 45 := by simpa using h
    rw [this, (cut_minus t).1]
theorem of_plain {l : List UInt8} (h : below l = false) : cut l = l := (cut_plain (by unfold below at h; exact h)).1
theorem cut_text (n : Int) : cut (textL n) = dec n.natAbs ∧ below (textL n) = decide (n < 0) := by
  unfold textL
  by_cases h : n < 0
  · rw [if_pos h, decide_eq_true h]; exact cut_minus _
  · rw [if_neg h, decide_eq_false h]
    have e := head_ne45 (dec_dig n.natAbs) (dec_length _) []
    rw [List.append_nil] at e
    exact cut_plain e
theorem money_head (a : Nat) : ((money a).headD 0 == 45) = false := head_ne45 (dec_dig _) (dec_length _) _
theorem cut_money (n : Int) : cut (moneyL n) = money n.natAbs ∧ below (moneyL n) = decide (n < 0) := by
  unfold moneyL
  by_cases h : n < 0
  · rw [if_pos h, decide_eq_true h]; exact cut_minus _
  · rw [if_neg h, decide_eq_false h]; exact cut_plain (money_head _)

theorem sign_abs (n : Int) : signE n.natAbs (decide (n < 0)) = (if n.natAbs ≤ most.natAbs then 0 else 3) ∧ (n.natAbs ≤ most.natAbs → signN n.natAbs (decide (n < 0)) = n) := by
  unfold signE signN most
  by_cases h : n < 0
  · have e : ¬ ((n.natAbs : Int) = 0) := by omega
    simp only [h, decide_true, e, and_false, if_false, if_true]
    constructor
    · split <;> split <;> omega
    · intro; split <;> omega
  · simp only [h, decide_false, Bool.false_eq_true, false_and, if_false]
    constructor
    · split <;> split <;> omega
    · intro; split <;> omega
theorem int_text (n : Int) : intE (textL n) = (if n.natAbs ≤ most.natAbs then 0 else 3) ∧ (n.natAbs ≤ most.natAbs → intN (textL n) = n) := by
  unfold intE intN
  obtain ⟨e1, e2⟩ := cut_text n
  rw [e1, e2, dec_val, dec_digits]
  simpa using sign_abs n

/-- what a number with its sign tells -/
theorem sign_ok {v : Int} {b : Bool} (h0 : 0 ≤ v) (h : signE v b = 0) : v ≤ most ∧ (b = true → 0 < v) ∧ signN v b = (if b = true then -v else v) := by
  unfold signE at h
  unfold signN
  split at h
  · omega
  · rename_i c1
    split at h
    · omega
    · rename_i c2
      refine ⟨by omega, fun hb => ?_, by rw [if_neg c1, if_neg c2]⟩
      rcases Int.lt_or_eq_of_le h0 with q | q
      · exact q
      · exact absurd ⟨hb, q.symm⟩ c1
theorem text_int {l : List UInt8} (h : intE l = 0) : textL (intN l) = l := by
  unfold intE at h
  unfold intN
  split at h
  · rename_i hd
    rw [if_pos hd]
    have hv := val_nonneg (digits_all hd)
    obtain ⟨_, h1, h2⟩ := sign_ok hv h
    rw [h2]
    have hw := dec_of hd
    cases hb : below l with
    | true =>
      have h1 := h1 hb
      rw [if_pos rfl]
      unfold textL
      rw [if_pos (by omega), show (-val (cut l)).natAbs = (val (cut l)).toNat by omega, hw]
      exact (of_below hb).symm
    | false =>
      rw [if_neg (by simp)]
      unfold textL
      rw [if_neg (by omega), show (val (cut l)).natAbs = (val (cut l)).toNat by omega, hw]
      exact of_plain hb
  · omega

theorem cok_parts (p : List UInt8) (c x y : UInt8) : cok (p ++ [c, x, y]) = (decide (1 ≤ p.length) && (c == 46) && digits p && (dig x && dig y)) ∧ cval (p ++ [c, x, y]) = 100 * val p + 10 * dval x + dval y := by
  have e1 : (p ++ [c, x, y]).length - 3 = p.length := by simp
  have e2 : (p ++ [c, x, y]).length - 2 = p.length + 1 := by simp
  have e3 : (p ++ [c, x, y]).take p.length = p := by simp
  have e4 : (p ++ [c, x, y]).drop (p.length + 1) = [x, y] := by
    rw [List.drop_append]; simp
  have e5 : (p ++ [c, x, y]).getD p.length 0 = c := by simp [List.getD]
  have e6 : decide (4 ≤ (p ++ [c, x, y]).length) = decide (1 ≤ p.length) := by
    rw [decide_eq_decide]; simp
  constructor
  · unfold cok
    rw [e6, e1, e2, e3, e4, e5]
    simp
  · unfold cval
    rw [e1, e2, e3, e4, show p ++ [x, y] = (p ++ [x]) ++ [y] by simp, val_snoc, val_snoc]
    omega
theorem split3 {m : List UInt8} (h : 4 ≤ m.length) : ∃ p c x y, m = p ++ [c, x, y] := by
  have h1 : (m.drop (m.length - 3)).length = 3 := by simp; omega
  obtain ⟨c, x, y, e⟩ : ∃ c x y, m.drop (m.length - 3) = [c, x, y] := by
    match hm : m.drop (m.length - 3), h1 with
    | [c, x, y], _ => exact ⟨c, x, y, rfl⟩
  exact ⟨m.take (m.length - 3), c, x, y, by rw [← e, List.take_append_drop]⟩
theorem cok_money (a : Nat) : cok (money a) = true ∧ cval (money a) = a := by
  unfold money
  obtain ⟨h1, h2⟩ := cok_parts (dec (a / 100)) 46 (UInt8.ofNat (48 + a / 10 % 10)) (UInt8.ofNat (48 + a % 10))
  rw [h1, h2, dec_digits, dec_val, dval_of _ (by omega), dval_of _ (by omega), dig_of _ (by omega), dig_of _ (by omega), decide_eq_true (dec_length _)]
  exact ⟨by simp, by omega⟩
theorem of_dval {c : UInt8} (h : dig c = true) : UInt8.ofNat (48 + (dval c).toNat) = c := by
  have := dig_true.1 h
  have : 48 + (dval c).toNat = c.toNat := by unfold dval; omega
  rw [this]; simp
theorem cok_len {m : List UInt8} (h : cok m = true) : 4 ≤ m.length := by
  unfold cok at h; simp only [Bool.and_eq_true, decide_eq_true_eq] at h; exact h.1.1.1
theorem money_of {m : List UInt8} (h : cok m = true) : 0 ≤ cval m ∧ money (cval m).toNat = m := by
  obtain ⟨p, c, x, y, rfl⟩ := split3 (cok_len h)
  obtain ⟨h1, h2⟩ := cok_parts p c x y
  rw [h1] at h
  simp only [Bool.and_eq_true, decide_eq_true_eq, beq_iff_eq] at h
  obtain ⟨⟨⟨hl, rfl⟩, hp⟩, hx, hy⟩ := h
  have v0 := val_nonneg (digits_all hp)
  have x0 := dval_range hx
  have y0 := dval_range hy
  rw [h2]
  refine ⟨by omega, ?_⟩
  unfold money
  rw [show (100 * val p + 10 * dval x + dval y).toNat / 100 = (val p).toNat by omega, show (100 * val p + 10 * dval x + dval y).toNat / 10 % 10 = (dval x).toNat by omega,
    show (100 * val p + 10 * dval x + dval y).toNat % 10 = (dval y).toNat by omega, dec_of hp, of_dval hx, of_dval hy]
theorem cents_money (n : Int) : centsE (moneyL n) = (if n.natAbs ≤ most.natAbs then 0 else 3) ∧ (n.natAbs ≤ most.natAbs → centsN (moneyL n) = n) := by
  unfold centsE centsN
  obtain ⟨e1, e2⟩ := cut_money n
  obtain ⟨e3, e4⟩ := cok_money n.natAbs
  rw [e1, e2, e3, e4]
  simpa using sign_abs n
theorem money_cents {l : List UInt8} (h : centsE l = 0) : moneyL (centsN l) = l := by
  unfold centsE at h
  unfold centsN
  split at h
  · rename_i hd
    rw [if_pos hd]
    obtain ⟨hv, hw⟩ := money_of hd
    obtain ⟨_, h1, h2⟩ := sign_ok hv h
    rw [h2]
    cases hb : below l with
    | true =>
      have h1 := h1 hb
      rw [if_pos rfl]
      unfold moneyL
      rw [if_pos (by omega), show (-cval (cut l)).natAbs = (cval (cut l)).toNat by omega, hw]
      exact (of_below hb).symm
    | false =>
      rw [if_neg (by simp)]
      unfold moneyL
      rw [if_neg (by omega), show (cval (cut l)).natAbs = (cval (cut l)).toNat by omega, hw]
      exact of_plain hb
  · omega
/-- no text is a number and money -/
theorem not_both (l : List UInt8) : intE l ≠ 0 ∨ centsE l ≠ 0 := by
  by_cases h1 : intE l = 0
  · right
    intro h2
    have hd : digits (cut l) = true := by
      unfold intE at h1; split at h1
      · assumption
      · omega
    have hc : cok (cut l) = true := by
      unfold centsE at h2; split at h2
      · assumption
      · omega
    obtain ⟨p, c, x, y, e⟩ := split3 (cok_len hc)
    rw [e] at hd hc
    rw [(cok_parts p c x y).1] at hc
    simp only [Bool.and_eq_true, decide_eq_true_eq, beq_iff_eq] at hc
    have := List.all_eq_true.1 (digits_all hd) c (by simp)
    rw [hc.1.1.2] at this
    exact absurd this (by decide)
  · exact Or.inl h1
end WM

/- Lines, fields and how they are put together. -/
namespace WM

/-- one byte more: what is complete, and what is under way -/
def step (b : UInt8) (s : List (List UInt8) × List UInt8) (c : UInt8) : List (List UInt8) × List UInt8 := if c = b then (s.1 ++ [s.2], []) else (s.1, s.2 ++ [c])
def run (b : UInt8) (l : List UInt8) : List (List UInt8) × List UInt8 := l.foldl (step b) ([], [])
/-- all pieces, the last one too -/
def pieces (b : UInt8) (l : List UInt8) : List (List UInt8) := (run b l).1 ++ [(run b l).2]
def plain (c : UInt8) : Bool := decide (32 ≤ c.toNat) && decide (c.toNat ≤ 126)
def full (ps : List (List UInt8)) : Bool := ps.all fun p => decide (p ≠ [])
def fieldsE (l : List UInt8) : Int := if 512 < l.length then 8 else if l = [] then 0 else if (l.all plain && full (pieces 32 l)) = true then 0 else 5
def fieldsN (l : List UInt8) : List (List UInt8) := if fieldsE l = 0 ∧ l ≠ [] then pieces 32 l else []
def linesE (l : List UInt8) : Int := if 65536 < l.length then 8 else 0
def linesN (l : List UInt8) : List (List UInt8) := if 65536 < l.length then [] else if (run 10 l).2 = [] then (run 10 l).1 else pieces 10 l
def joinL : List (List UInt8) → List UInt8
  | [] => []
  | [p] => p
  | p :: q :: r => p ++ 32 :: joinL (q :: r)

theorem run_nil (b : UInt8) : run b [] = ([], []) := rfl
theorem run_snoc (b : UInt8) (l : List UInt8) (c : UInt8) : run b (l ++ [c]) = step b (run b l) c := by simp [run]
theorem run_snoc_at (b : UInt8) (l : List UInt8) : run b (l ++ [b]) = ((run b l).1 ++ [(run b l).2], []) := by rw [run_snoc]; simp [step]
theorem run_snoc_in {b c : UInt8} (h : c ≠ b) (l : List UInt8) : run b (l ++ [c]) = ((run b l).1, (run b l).2 ++ [c]) := by rw [run_snoc]; simp [step, h]
theorem joinL_snoc (ps : List (List UInt8)) (q : List UInt8) (h : ps ≠ []) : joinL (ps ++ [q]) = joinL ps ++ 32 :: q := by
  induction ps with
  | nil => exact absurd rfl h
  | cons p ps ih =>
    cases ps with
    | nil => rfl
    | cons r rs =>
      have e := ih (by simp)
      show p ++ 32 :: joinL (r :: rs ++ [q]) = (p ++ 32 :: joinL (r :: rs)) ++ 32 :: q
      rw [e]; simp
theorem joinL_one (q : List UInt8) : joinL ([] ++ [q]) = q := rfl
theorem joinL_last (ps : List (List UInt8)) (q : List UInt8) (c : UInt8) : joinL (ps ++ [q ++ [c]]) = joinL (ps ++ [q]) ++ [c] := by
  by_cases h : ps = []
  · subst h; rfl
  · rw [joinL_snoc _ _ h, joinL_snoc _ _ h]; simp
/-- a line's fields put together are the line -/
theorem join_pieces (l : List UInt8) : joinL (pieces 32 l) = l := by
  induction l using snoc_ind with
  | h0 => rfl
  | h1 l c ih =>
    unfold pieces at *
    by_cases h : c = 32
    · subst h
      rw [run_snoc_at]
      show joinL ((run 32 l).1 ++ [(run 32 l).2] ++ [[]]) = _
      rw [joinL_snoc _ _ (by simp), ih]
    · rw [run_snoc_in h]
      show joinL ((run 32 l).1 ++ [(run 32 l).2 ++ [c]]) = _
      rw [joinL_last, ih]
theorem foldl_in {b : UInt8} (q : List UInt8) (h : b ∉ q) (s : List (List UInt8) × List UInt8) : q.foldl (step b) s = (s.1, s.2 ++ q) := by
  induction q generalizing s with
  | nil => simp
  | cons c q ih =>
    have h1 : c ≠ b := fun e => h (by rw [e]; simp)
    have h2 : b ∉ q := fun e => h (by simp [e])
    rw [List.foldl_cons, ih h2]
    simp [step, h1]
/-- texts without a blank, put together, are cut into these -/
theorem pieces_join (ps : List (List UInt8)) (hne : ps ≠ []) (h : ∀ p ∈ ps, (32 : UInt8) ∉ p) : pieces 32 (joinL ps) = ps := by
  have key : ∀ n, ∀ ps : List (List UInt8), ps.length = n → ps ≠ [] → (∀ p ∈ ps, (32 : UInt8) ∉ p) → pieces 32 (joinL ps) = ps := by
    intro n
    induction n with
    | zero => intro ps h0 hne _; exact absurd (List.length_eq_zero_iff.1 h0) hne
    | succ n ih =>
      intro ps h0 hne hp
      rw [← List.dropLast_concat_getLast hne] at hp ⊢
      have hl : ps.dropLast.length = n := by rw [List.length_dropLast]; omega
      generalize ps.dropLast = qs at *
      generalize ps.getLast hne = q at *
      have hq : (32 : UInt8) ∉ q := hp q (by simp)
      by_cases hz : qs = []
      · subst hz
        unfold pieces run
        rw [joinL_one, foldl_in q hq]
        simp
      · have e := ih qs hl hz (fun p hp' => hp p (by simp [hp']))
        rw [joinL_snoc _ _ hz]
        unfold pieces run at *
        rw [List.foldl_append, List.foldl_cons]
        generalize List.foldl (step 32) ([], []) (joinL qs) = st at *
        rw [foldl_in q hq]
        simp [step, e]
  exact key _ ps rfl hne h
theorem run_no {b : UInt8} {l : List UInt8} (h : b ∉ l) : run b l = ([], l) := by unfold run; rw [foldl_in l h]; simp
theorem no_of_run {b : UInt8} (l : List UInt8) : (run b l).1 = [] → b ∉ l ∧ (run b l).2 = l := by
  induction l using snoc_ind with
  | h0 => intro _; simp [run_nil]
  | h1 l c ih =>
    by_cases h : c = b
    · subst h; rw [run_snoc_at]; intro e; simp at e
    · rw [run_snoc_in h]
      intro e
      obtain ⟨h1, h2⟩ := ih e
      refine ⟨?_, by rw [h2]⟩
      simp only [List.mem_append, List.mem_singleton]
      rintro (a | a)
      · exact h1 a
      · exact h a.symm
/-- a line that is one field -/
theorem one_field {l : List UInt8} : (fieldsE l = 0 ∧ (fieldsN l).length = 1) ↔ (l ≠ [] ∧ l.length ≤ 512 ∧ l.all plain = true ∧ (32 : UInt8) ∉ l) := by
  constructor
  · rintro ⟨h1, h2⟩
    unfold fieldsN at h2
    by_cases hl : l = []
    · rw [if_neg (by simp [hl])] at h2; simp at h2
    · rw [if_pos ⟨h1, hl⟩] at h2
      unfold fieldsE at h1
      split at h1
      · omega
      · split at h1
        · rename_i ha hb
          rw [Bool.and_eq_true] at hb
          have : (run 32 l).1 = [] := by unfold pieces at h2; simpa using h2
          exact ⟨hl, by omega, hb.1, (no_of_run l this).1⟩
        · omega
  · rintro ⟨h1, h2, h3, h4⟩
    have hp : pieces 32 l = [l] := by unfold pieces; rw [run_no h4]; rfl
    have he : fieldsE l = 0 := by
      unfold fieldsE
      rw [if_neg (by omega), if_neg h1, hp, h3]
      simp [full, h1]
    refine ⟨he, ?_⟩
    unfold fieldsN
    rw [if_pos ⟨he, h1⟩, hp]
    rfl
theorem plain_true {c : UInt8} : plain c = true ↔ 32 ≤ (c.toNat : Int) ∧ (c.toNat : Int) ≤ 126 := by unfold plain; simp; omega
theorem plain_false {c : UInt8} : plain c = false ↔ (c.toNat : Int) < 32 ∨ 126 < (c.toNat : Int) := by rw [Bool.eq_false_iff, ne_eq, plain_true]; omega
/-- a name is one field -/
theorem name_field {l : List UInt8} (h : name l = true) : fieldsE l = 0 ∧ (fieldsN l).length = 1 := by
  unfold name at h
  simp only [Bool.and_eq_true, decide_eq_true_eq] at h
  obtain ⟨⟨ha, hb⟩, hc⟩ := h
  have hr : ∀ c ∈ l, (97 ≤ (c.toNat : Int) ∧ (c.toNat : Int) ≤ 122) ∨ (48 ≤ (c.toNat : Int) ∧ (c.toNat : Int) ≤ 57) := by
    intro c hc
    have := List.all_eq_true.1 ha c hc
    simp only [Bool.or_eq_true] at this
    rcases this with h | h
    · exact Or.inl (letter_true.1 h)
    · exact Or.inr (dig_true.1 h)
  refine one_field.2 ⟨?_, by omega, ?_, ?_⟩
  · rintro rfl
    exact absurd hb (by decide)
  · rw [List.all_eq_true]
    intro c hc
    have := hr c hc
    rw [plain_true]; omega
  · intro h
    have := hr 32 h
    have e : (32 : UInt8).toNat = 32 := rfl
    omega
theorem all_join {p : UInt8 → Bool} (h32 : p 32 = true) (ps : List (List UInt8)) (h : ∀ q ∈ ps, q.all p = true) : (joinL ps).all p = true := by
  induction ps with
  | nil => rfl
  | cons q ps ih =>
    have hq := h q (by simp)
    cases ps with
    | nil => exact hq
    | cons r rs =>
      have e := ih (fun x hx => h x (by simp [hx]))
      show (q ++ 32 :: joinL (r :: rs)).all p = true
      rw [List.all_append, List.all_cons, hq, h32, e]; rfl
/-- fields put together are cut into these again -/
theorem fields_join {ps : List (List UInt8)} (h : ∀ q ∈ ps, fieldsE q = 0 ∧ (fieldsN q).length = 1) (hl : (joinL ps).length ≤ 512) : fieldsE (joinL ps) = 0 ∧ fieldsN (joinL ps) = ps := by
  by_cases hz : ps = []
  · subst hz; exact ⟨rfl, rfl⟩
  · have h' := fun q hq => one_field.1 (h q hq)
    have hp := pieces_join ps hz (fun q hq => (h' q hq).2.2.2)
    have hn : joinL ps ≠ [] := by
      intro e
      rw [e] at hp
      have : ps = [[]] := by rw [← hp]; rfl
      exact (h' [] (by rw [this]; simp)).1 rfl
    have ha := all_join (p := plain) (by decide) ps (fun q hq => (h' q hq).2.2.1)
    have hf : full ps = true := by
      unfold full
      rw [List.all_eq_true]
      intro q hq
      simpa using (h' q hq).1
    have he : fieldsE (joinL ps) = 0 := by
      unfold fieldsE
      rw [if_neg (by omega), if_neg hn, hp, ha, hf]; rfl
    refine ⟨he, ?_⟩
    unfold fieldsN
    rw [if_pos ⟨he, hn⟩, hp]
theorem join_fields {l : List UInt8} (h : fieldsE l = 0) : joinL (fieldsN l) = l := by
  unfold fieldsN
  by_cases hl : l = []
  · rw [if_neg (by simp [hl]), hl]; rfl
  · rw [if_pos ⟨h, hl⟩, join_pieces]
/-- what a loop has at place k: what is under way is the text from its last cut on -/
theorem run_take (b : UInt8) (l : List UInt8) (k : Nat) : ∃ f, f ≤ min k l.length ∧ (run b (l.take k)).2 = (l.take k).drop f := by
  induction k with
  | zero => exact ⟨0, by omega, by simp [run_nil]⟩
  | succ k ih =>
    obtain ⟨f, hf, e⟩ := ih
    by_cases hk : k < l.length
    · rw [take_snoc l k hk]
      by_cases hc : l[k] = b
      · refine ⟨k + 1, by omega, ?_⟩
        rw [hc, run_snoc_at]
        simp; omega
      · refine ⟨f, by omega, ?_⟩
        rw [run_snoc_in hc, e, List.drop_append_of_le_length (by simp; omega)]
    · refine ⟨f, by omega, ?_⟩
      rw [List.take_of_length_le (by omega)] at *
      exact e
end WM

/- Texts in order: the model's own order of bytes is a total order. -/
namespace OM
open Go
theorem bl_irrefl : ∀ x : List UInt8, Op.bytesLess x x = false
  | [] => rfl
  | a :: x => by
    simp [Op.bytesLess, bl_irrefl x]
theorem bl_trans : ∀ x y z : List UInt8, Op.bytesLess x y = true → Op.bytesLess y z = true → Op.bytesLess x z = true
  | [], [], z, h, _ => by simp [Op.bytesLess] at h
  | [], _ :: _, [], _, h => by simp [Op.bytesLess] at h
  | [], _ :: _, _ :: _, _, _ => by simp [Op.bytesLess]
  | _ :: _, [], _, h, _ => by simp [Op.bytesLess] at h
  | _ :: _, _ :: _, [], _, h => by simp [Op.bytesLess] at h
  | a :: x, b :: y, c :: z, h1, h2 => by
    simp only [Op.bytesLess, Bool.or_eq_true, decide_eq_true_eq, Bool.and_eq_true, beq_iff_eq] at h1 h2 ⊢
    rcases h1 with h1 | ⟨rfl, h1⟩
    · rcases h2 with h2 | ⟨rfl, h2⟩
      · left; rw [UInt8.lt_iff_toNat_lt] at *; omega
      · left; exact h1
    · rcases h2 with h2 | ⟨rfl, h2⟩
      · left; exact h2
      · right; exact ⟨rfl, bl_trans x y z h1 h2⟩
theorem bl_asymm {x y : List UInt8} (h : Op.bytesLess x y = true) : Op.bytesLess y x = false := by
  cases e : Op.bytesLess y x
  · rfl
  · have := bl_trans _ _ _ h e
    rw [bl_irrefl] at this; cases this
theorem bl_tri : ∀ x y : List UInt8, Op.bytesLess x y = true ∨ x = y ∨ Op.bytesLess y x = true
  | [], [] => .inr (.inl rfl)
  | [], _ :: _ => .inl (by simp [Op.bytesLess])
  | _ :: _, [] => .inr (.inr (by simp [Op.bytesLess]))
  | a :: x, b :: y => by
    simp only [Op.bytesLess, Bool.or_eq_true, decide_eq_true_eq, Bool.and_eq_true, beq_iff_eq]
    have h : a < b ∨ a = b ∨ b < a := by
      rw [UInt8.lt_iff_toNat_lt, UInt8.lt_iff_toNat_lt, ← UInt8.toNat_inj]; omega
    rcases h with h | rfl | h
    · exact .inl (.inl h)
    · rcases bl_tri x y with g | rfl | g
      · exact .inl (.inr ⟨rfl, g⟩)
      · exact .inr (.inl rfl)
      · exact .inr (.inr (.inr ⟨rfl, g⟩))
    · exact .inr (.inr (.inl h))
end OM

/- Layer 9's mathematics: products, their prices, roundings and values. -/
namespace QM
structure Prod where
  name : ByteArray
  cur : Int
  mult : Int
  tick : Int
  low : Int
  high : Int
  phys : Bool
def zero : Prod := ⟨⟨#[]⟩, 0, 0, 0, 0, 0, false⟩
def within (n a b : Int) : Bool := decide (a ≤ n) && decide (n ≤ b)
theorem within_true {n a b : Int} : within n a b = true ↔ a ≤ n ∧ n ≤ b := by simp [within]
theorem within_false {n a b : Int} : within n a b = false ↔ n < a ∨ b < n := by rw [Bool.eq_false_iff, ne_eq, within_true]; omega
def nameOk (p : Prod) : Bool := WM.name p.name.data.toList
def rangeOk (p : Prod) : Bool := within p.low (-16777216) 16777216 && within p.high (-16777216) 16777216 && decide (p.low ≤ p.high) && (p.low.tmod p.tick == 0) && (p.high.tmod p.tick == 0)
def checkE (p : Prod) : Int :=
  if nameOk p = false then 10 else if within p.cur 0 7 = false then 25 else if within p.mult 1 4096 = false then 2 else if within p.tick 1 16777216 = false then 16 else if rangeOk p = false then 17 else 0
theorem check_parts {p : Prod} (h : checkE p = 0) : nameOk p = true ∧ (0 ≤ p.cur ∧ p.cur ≤ 7) ∧ (1 ≤ p.mult ∧ p.mult ≤ 4096) ∧ (1 ≤ p.tick ∧ p.tick ≤ 16777216) ∧
    (-16777216 ≤ p.low ∧ p.low ≤ p.high ∧ p.high ≤ 16777216) ∧ p.low.tmod p.tick = 0 ∧ p.high.tmod p.tick = 0 := by
  unfold checkE at h
  split at h
  · cases h
  · split at h
    · cases h
    · split at h
      · cases h
      · split at h
        · cases h
        · split at h
          · cases h
          · rename_i h1 h2 h3 h4 h5
            rw [Bool.not_eq_false] at h1 h2 h3 h4 h5
            rw [within_true] at h2 h3 h4
            unfold rangeOk at h5
            simp only [Bool.and_eq_true, within_true, decide_eq_true_eq, beq_iff_eq] at h5
            obtain ⟨⟨⟨⟨a, b⟩, c⟩, d⟩, e⟩ := h5
            exact ⟨h1, h2, h3, h4, ⟨a.1, c, b.2⟩, d, e⟩
theorem check_cases (p : Prod) : checkE p = 0 ∨ checkE p = 10 ∨ checkE p = 25 ∨ checkE p = 2 ∨ checkE p = 16 ∨ checkE p = 17 := by
  unfold checkE
  split
  · simp
  · split
    · simp
    · split
      · simp
      · split
        · simp
        · split <;> simp

/-- a list of products: product by product -/
def lessB (s t : ByteArray) : Bool := Go.Op.bytesLess s.toList t.toList
def pAt (l : List Prod) (k : Nat) : Prod := l.getD k zero
/-- the error of product k, or that its name is not behind the one ahead -/
def oneE (l : List Prod) (k : Nat) : Int := if checkE (pAt l k) ≠ 0 then checkE (pAt l k) else if 0 < k ∧ lessB (pAt l (k - 1)).name (pAt l k).name = false then 12 else 0
def uptoE (l : List Prod) : Nat → Int
  | 0 => 0
  | k + 1 => if uptoE l k = 0 then oneE l k else uptoE l k
def allE (l : List Prod) : Int := if 32 < l.length then 8 else uptoE l l.length
theorem upto_stay {l : List Prod} {k : Nat} (h : uptoE l k ≠ 0) : ∀ m, uptoE l (k + m) = uptoE l k := by
  intro m
  induction m with
  | zero => rfl
  | succ m ih => rw [← Nat.add_assoc, uptoE, ih, if_neg h]
theorem all_stop {l : List Prod} {k : Nat} (hl : ¬ 32 < l.length) (hk : k < l.length) (h : uptoE l k = 0) (h2 : oneE l k ≠ 0) : allE l = oneE l k := by
  have e : uptoE l (k + 1) = oneE l k := by rw [uptoE, if_pos h]
  unfold allE
  rw [if_neg hl]
  have := @upto_stay l (k + 1) (by rw [e]; exact h2) (l.length - (k + 1))
  rw [show k + 1 + (l.length - (k + 1)) = l.length by omega] at this
  rw [this, e]
theorem upto_step {l : List Prod} {k : Nat} (h : uptoE l k = 0) (h2 : oneE l k = 0) : uptoE l (k + 1) = 0 := by rw [uptoE, if_pos h]; exact h2
theorem upto_back {l : List Prod} {n : Nat} (h : uptoE l n = 0) : ∀ k, k < n → oneE l k = 0 := by
  induction n with
  | zero => intro k hk; omega
  | succ n ih =>
    intro k hk
    rw [uptoE] at h
    by_cases hn : uptoE l n = 0
    · rw [if_pos hn] at h
      rcases Nat.lt_or_ge k n with g | g
      · exact ih hn k g
      · obtain rfl : k = n := by omega
        exact h
    · rw [if_neg hn] at h; exact absurd h hn
theorem all_ok {l : List Prod} (h : allE l = 0) : l.length ≤ 32 ∧ ∀ k, k < l.length → checkE (pAt l k) = 0 := by
  unfold allE at h
  split at h
  · cases h
  · refine ⟨by omega, fun k hk => ?_⟩
    have := upto_back h k hk
    unfold oneE at this
    by_cases hc : checkE (pAt l k) = 0
    · exact hc
    · rw [if_pos hc] at this; exact absurd this hc

def priceE (p : Prod) (x : Int) : Int := if checkE p ≠ 0 then checkE p else if within x p.low p.high = false then 17 else if x.tmod p.tick ≠ 0 then 16 else 0
def roundE (p : Prod) (x mode : Int) : Int := if checkE p ≠ 0 then checkE p else if within x (-16777216) 16777216 = false then 17 else if within mode 1 5 = false then 2 else 0
def roundN (p : Prod) (x mode : Int) : Int := if roundE p x mode = 0 then CM.clamp (CM.mdN x 1 p.tick mode * p.tick) p.low p.high else 0
def valueE (p : Prod) (x q : Int) : Int := if checkE p ≠ 0 then checkE p else if within x (-33554432) 33554432 = false then 17 else if within q (-1048576) 1048576 = false then 18 else 0
def valueN (p : Prod) (x q : Int) : Int := if valueE p x q = 0 then x * p.mult * q else 0

theorem price_zero {p : Prod} {x : Int} : priceE p x = 0 ↔ checkE p = 0 ∧ (p.low ≤ x ∧ x ≤ p.high) ∧ x.tmod p.tick = 0 := by
  unfold priceE
  constructor
  · intro h
    split at h
    · rename_i h1; exact absurd h h1
    · rename_i h1
      split at h
      · cases h
      · split at h
        · cases h
        · rename_i h2 h3
          exact ⟨Classical.not_not.1 h1, within_true.1 (by simpa using h2), Classical.not_not.1 h3⟩
  · rintro ⟨h1, h2, h3⟩
    rw [if_neg (by simp [h1]), if_neg (by rw [within_true.2 h2]; simp), if_neg (by simp [h3])]
theorem round_zero {p : Prod} {x mode : Int} : roundE p x mode = 0 ↔ checkE p = 0 ∧ (-16777216 ≤ x ∧ x ≤ 16777216) ∧ (1 ≤ mode ∧ mode ≤ 5) := by
  unfold roundE
  constructor
  · intro h
    split at h
    · rename_i h1; exact absurd h h1
    · rename_i h1
      split at h
      · cases h
      · split at h
        · cases h
        · rename_i h2 h3
          exact ⟨Classical.not_not.1 h1, within_true.1 (by simpa using h2), within_true.1 (by simpa using h3)⟩
  · rintro ⟨h1, h2, h3⟩
    rw [if_neg (by simp [h1]), if_neg (by rw [within_true.2 h2]; simp), if_neg (by rw [within_true.2 h3]; simp)]
theorem value_zero {p : Prod} {x q : Int} : valueE p x q = 0 ↔ checkE p = 0 ∧ (-33554432 ≤ x ∧ x ≤ 33554432) ∧ (-1048576 ≤ q ∧ q ≤ 1048576) := by
  unfold valueE
  constructor
  · intro h
    split at h
    · rename_i h1; exact absurd h h1
    · rename_i h1
      split at h
      · cases h
      · split at h
        · cases h
        · rename_i h2 h3
          exact ⟨Classical.not_not.1 h1, within_true.1 (by simpa using h2), within_true.1 (by simpa using h3)⟩
  · rintro ⟨h1, h2, h3⟩
    rw [if_neg (by simp [h1]), if_neg (by rw [within_true.2 h2]; simp), if_neg (by rw [within_true.2 h3]; simp)]

theorem fits_of {n : Int} (h1 : -33554432 ≤ n) (h2 : n ≤ 33554432) : CM.fits n = true := by rw [CM.fits_true]; omega
/-- an amount divided by what divides it -/
theorem md_exact {q t mode : Int} (ht : 1 ≤ t) (h : CM.fits (q * t) = true) (hq : CM.fits q = true) (ht2 : CM.fits t = true) (h1 : 1 ≤ mode) (h5 : mode ≤ 5) : CM.mdN (q * t) 1 t mode = q ∧ CM.mdE (q * t) 1 t mode = 0 := by
  have hN : (CM.size (q * t)).toNat * (CM.size 1).toNat = (CM.size q).toNat * (CM.size t).toNat := by
    have e : CM.size (q * t) = CM.size q * t := by
      unfold CM.size
      by_cases hq0 : q < 0
      · have : q * t < 0 := Int.mul_neg_of_neg_of_pos hq0 (by omega)
        rw [if_pos this, if_pos hq0, Int.neg_mul]
      · have : ¬ q * t < 0 := by
          have := Int.mul_nonneg (show (0 : Int) ≤ q by omega) (show (0 : Int) ≤ t by omega)
          omega
        rw [if_neg this, if_neg hq0]
    have s0 := CM.size_nonneg q
    have e1 : CM.size 1 = 1 := by decide
    rw [e, e1, CM.size_of (show (0 : Int) < t by omega), Int.toNat_mul s0 (by omega)]
    simp
  have st : (CM.size t).toNat = t.toNat := by rw [CM.size_of (by omega)]
  have hQ : CM.mdQ (q * t) 1 t = (CM.size q).toNat := by
    unfold CM.mdQ
    rw [hN, Nat.mul_div_cancel _ (by rw [st]; omega)]
  have hR : CM.mdR (q * t) 1 t = 0 := by
    unfold CM.mdR
    rw [hN, Nat.mul_mod_left]
  have hG : CM.mdG (q * t) 1 t mode = CM.size q := by
    have s0 := CM.size_nonneg q
    unfold CM.mdG
    rw [hR, hQ]
    have : CM.grow ((CM.size q).toNat : Nat) (0 : Nat) (CM.size t) mode (CM.neg (q * t) 1 t) = false := by simp [CM.grow]
    rw [this]
    simp
    omega
  have f1 : CM.fits 1 = true := by decide
  have hA : CM.mdA (q * t) 1 t mode = true := by simp [CM.mdA, h, f1, ht2, h1, h5]
  obtain ⟨q1, q2⟩ := CM.fits_true.1 hq
  have hs := CM.size_le q1 q2
  have hE : CM.mdE (q * t) 1 t mode = 0 := by simp [CM.mdE, hA, show t ≠ 0 by omega, hG, hs]
  refine ⟨?_, hE⟩
  obtain ⟨_, _, _, hm⟩ := CM.md_ok hE
  rw [hm, hG, CM.neg_of (by omega) (by omega)]
  by_cases hq0 : q < 0
  · have : q * t < 0 := Int.mul_neg_of_neg_of_pos hq0 (by omega)
    have e : CM.size q = -q := by unfold CM.size; rw [if_pos hq0]
    simp only [this, decide_true, if_true]; omega
  · have : ¬ q * t < 0 := by
      have := Int.mul_nonneg (show (0 : Int) ≤ q by omega) (show (0 : Int) ≤ t by omega)
      omega
    have e : CM.size q = q := by unfold CM.size; rw [if_neg hq0]
    simp only [this, decide_false, Bool.false_eq_true, if_false]; omega
theorem clamp_mult {n low high t : Int} (hl : low ≤ high) (h1 : n.tmod t = 0) (h2 : low.tmod t = 0) (h3 : high.tmod t = 0) : (CM.clamp n low high).tmod t = 0 ∧ low ≤ CM.clamp n low high ∧ CM.clamp n low high ≤ high := by
  unfold CM.clamp
  split
  · exact ⟨h2, by omega, hl⟩
  · split
    · exact ⟨h3, hl, by omega⟩
    · exact ⟨h1, by omega, by omega⟩
/-- what is rounded may be a price -/
theorem round_ok {p : Prod} {x mode : Int} (h : roundE p x mode = 0) : priceE p (roundN p x mode) = 0 := by
  obtain ⟨hc, _, _⟩ := round_zero.1 h
  obtain ⟨_, _, _, _, ⟨_, hl, _⟩, m1, m2⟩ := check_parts hc
  have e : roundN p x mode = CM.clamp (CM.mdN x 1 p.tick mode * p.tick) p.low p.high := by unfold roundN; rw [if_pos h]
  rw [price_zero, e]
  obtain ⟨a, b, c⟩ := clamp_mult (n := CM.mdN x 1 p.tick mode * p.tick) hl (Int.mul_tmod_left _ _) m1 m2
  exact ⟨hc, ⟨b, c⟩, a⟩
/-- a price that may be is rounded to itself -/
theorem round_same {p : Prod} {x mode : Int} (h : priceE p x = 0) (h1 : 1 ≤ mode) (h5 : mode ≤ 5) : roundE p x mode = 0 ∧ roundN p x mode = x := by
  obtain ⟨hc, ⟨x1, x2⟩, hm⟩ := price_zero.1 h
  obtain ⟨_, _, _, ⟨t1, t2⟩, ⟨l1, l2, l3⟩, _, _⟩ := check_parts hc
  have hE : roundE p x mode = 0 := round_zero.2 ⟨hc, ⟨by omega, by omega⟩, h1, h5⟩
  refine ⟨hE, ?_⟩
  have e : roundN p x mode = CM.clamp (CM.mdN x 1 p.tick mode * p.tick) p.low p.high := by unfold roundN; rw [if_pos hE]
  obtain ⟨q, hq⟩ := Int.dvd_of_tmod_eq_zero hm
  rw [Int.mul_comm] at hq
  have hqb : -16777216 ≤ q ∧ q ≤ 16777216 := by
    constructor
    · rcases Int.lt_or_le q (-16777216) with g | g
      · exfalso
        have : q * p.tick ≤ q * 1 := Int.mul_le_mul_of_nonpos_left (by omega) (by omega)
        omega
      · exact g
    · rcases Int.lt_or_le 16777216 q with g | g
      · exfalso
        have : q * 1 ≤ q * p.tick := Int.mul_le_mul_of_nonneg_left (by omega) (by omega)
        omega
      · exact g
  have hx := (md_exact (q := q) (t := p.tick) (mode := mode) t1 (by rw [← hq]; exact fits_of (by omega) (by omega)) (fits_of (by omega) (by omega)) (fits_of (by omega) (by omega)) h1 h5).1
  rw [e, hq, hx, ← hq]
  unfold CM.clamp
  rw [if_neg (by omega), if_neg (by omega)]
/-- Values of lots add up -/
theorem value_neg {p : Prod} {x q : Int} (h : valueE p x q = 0) (h2 : valueE p (-x) q = 0) : valueN p (-x) q = -valueN p x q := by
  unfold valueN
  rw [if_pos h, if_pos h2]
  simp [Int.neg_mul]
theorem value_add {p : Prod} {x a b : Int} (h : valueE p x a = 0) (h2 : valueE p x b = 0) : (valueE p x (a + b) = 0 → valueN p x (a + b) = valueN p x a + valueN p x b) ∧ (valueE p x (a + b) = 0 ∨ valueE p x (a + b) = 18) := by
  refine ⟨fun h3 => ?_, ?_⟩
  · unfold valueN
    rw [if_pos h, if_pos h2, if_pos h3, Int.mul_add]
  · obtain ⟨hc, hx, _⟩ := value_zero.1 h
    unfold valueE
    rw [if_neg (by simp [hc]), if_neg (by rw [within_true.2 hx]; simp)]
    split <;> simp
theorem value_range {p : Prod} {x q : Int} (h : valueE p x q = 0) : (-137438953472 ≤ x * p.mult ∧ x * p.mult ≤ 137438953472) ∧ (-144115188075855872 ≤ x * p.mult * q ∧ x * p.mult * q ≤ 144115188075855872) := by
  obtain ⟨hc, ⟨x1, x2⟩, q1, q2⟩ := value_zero.1 h
  obtain ⟨_, _, ⟨m1, m2⟩, _⟩ := check_parts hc
  have a : -137438953472 ≤ x * p.mult ∧ x * p.mult ≤ 137438953472 := by
    constructor
    · have g1 : -33554432 * p.mult ≤ x * p.mult := Int.mul_le_mul_of_nonneg_right x1 (by omega)
      omega
    · have g1 : x * p.mult ≤ 33554432 * p.mult := Int.mul_le_mul_of_nonneg_right x2 (by omega)
      omega
  refine ⟨a, ?_⟩
  obtain ⟨a1, a2⟩ := a
  generalize x * p.mult = y at *
  have b1 : (y * q).natAbs ≤ 137438953472 * 1048576 := by
    rw [Int.natAbs_mul]
    exact Nat.mul_le_mul (by omega) (by omega)
  omega
end QM
