/- Texts as lists of bytes: names, digits, numbers and how they are written. -/
import Derived.Below
namespace WM

def dig (c : UInt8) : Bool := decide (48 ≤ c.toNat) && decide (c.toNat ≤ 57)
def letter (c : UInt8) : Bool := decide (97 ≤ c.toNat) && decide (c.toNat ≤ 122)
def most : Int := 1152921504606846976
/-- is it a name -/
def name (l : List UInt8) : Bool := l.all (fun c => letter c || dig c) && letter (l.headD 0) && decide (l.length ≤ 12)
/-- digits alone, no nought ahead -/
def digits (l : List UInt8) : Bool := l.all dig && (l.length == 1 || (decide (1 < l.length) && l.headD 0 != 48))
def dval (c : UInt8) : Int := (c.toNat : Int) - 48
/-- the number that digits write -/
def val (l : List UInt8) : Int := l.foldl (fun n c => 10 * n + dval c) 0
/-- the same, but that it stops above the greatest -/
def sval (l : List UInt8) : Int := l.foldl (fun n c => if 115292150460684697 < n then most + 1 else 10 * n + dval c) 0
def cut (l : List UInt8) : List UInt8 := if l.headD 0 == 45 then l.tail else l
def below (l : List UInt8) : Bool := l.headD 0 == 45
def signE (v : Int) (b : Bool) : Int := if b = true ∧ v = 0 then 5 else if most < v then 3 else 0
def signN (v : Int) (b : Bool) : Int := if b = true ∧ v = 0 then 0 else if most < v then 0 else if b = true then -v else v
def intE (l : List UInt8) : Int := if digits (cut l) = true then signE (val (cut l)) (below l) else 5
def intN (l : List UInt8) : Int := if digits (cut l) = true then signN (val (cut l)) (below l) else 0
/-- the digits of a number -/
def dec (n : Nat) : List UInt8 := if h : n < 10 then [UInt8.ofNat (48 + n)] else dec (n / 10) ++ [UInt8.ofNat (48 + n % 10)]
termination_by n
decreasing_by omega

theorem take_snoc (l : List UInt8) (k : Nat) (h : k < l.length) : l.take (k + 1) = l.take k ++ [l[k]] := List.take_succ_eq_append_getElem h
theorem all_snoc (p : UInt8 → Bool) (l : List UInt8) (c : UInt8) : (l ++ [c]).all p = (l.all p && p c) := by simp
theorem all_take {p : UInt8 → Bool} {l : List UInt8} (h : l.all p = true) (k : Nat) : (l.take k).all p = true := by
  rw [List.all_eq_true] at *
  exact fun x hx => h x (List.mem_of_mem_take hx)
theorem all_get {p : UInt8 → Bool} {l : List UInt8} (h : l.all p = true) (k : Nat) (hk : k < l.length) : p l[k] = true := List.all_eq_true.1 h _ (List.getElem_mem hk)
theorem not_all {p : UInt8 → Bool} {l : List UInt8} (k : Nat) (hk : k < l.length) (h : p l[k] = false) : l.all p = false := by
  rw [Bool.eq_false_iff]
  intro a
  rw [all_get a k hk] at h
  exact absurd h (by simp)
theorem dig_true {c : UInt8} : dig c = true ↔ 48 ≤ (c.toNat : Int) ∧ (c.toNat : Int) ≤ 57 := by unfold dig; simp; omega
theorem dig_false {c : UInt8} : dig c = false ↔ (c.toNat : Int) < 48 ∨ 57 < (c.toNat : Int) := by rw [Bool.eq_false_iff, ne_eq, dig_true]; omega
theorem letter_true {c : UInt8} : letter c = true ↔ 97 ≤ (c.toNat : Int) ∧ (c.toNat : Int) ≤ 122 := by unfold letter; simp; omega
theorem letter_false {c : UInt8} : letter c = false ↔ (c.toNat : Int) < 97 ∨ 122 < (c.toNat : Int) := by rw [Bool.eq_false_iff, ne_eq, letter_true]; omega
theorem dval_range {c : UInt8} (h : dig c = true) : 0 ≤ dval c ∧ dval c ≤ 9 := by have := dig_true.1 h; unfold dval; omega

theorem val_snoc (l : List UInt8) (c : UInt8) : val (l ++ [c]) = 10 * val l + dval c := by simp [val]
theorem sval_snoc (l : List UInt8) (c : UInt8) : sval (l ++ [c]) = if 115292150460684697 < sval l then most + 1 else 10 * sval l + dval c := by unfold sval; rw [List.foldl_append]; rfl
theorem snoc_ind {P : List UInt8 → Prop} (h0 : P []) (h1 : ∀ l c, P l → P (l ++ [c])) (l : List UInt8) : P l := by
  have : ∀ n, ∀ l : List UInt8, l.length = n → P l := by
    intro n
    induction n with
    | zero => intro l h; rw [List.length_eq_zero_iff.1 h]; exact h0
    | succ n ih =>
      intro l h
      have hne : l ≠ [] := by intro e; rw [e] at h; simp at h
      rw [← List.dropLast_concat_getLast hne]
      exact h1 _ _ (ih _ (by simp [h]))
  exact this _ l rfl
theorem val_nonneg {l : List UInt8} (h : l.all dig = true) : 0 ≤ val l := by
  induction l using snoc_ind with
  | h0 => simp [val]
  | h1 l c ih =>
    rw [all_snoc, Bool.and_eq_true] at h
    have := ih h.1
    have := dval_range h.2
    rw [val_snoc]; omega
/-- below the greatest they are one -/
theorem sval_val {l : List UInt8} (h : l.all dig = true) : (0 ≤ sval l ∧ sval l ≤ 1152921504606846979) ∧ (val l ≤ most → sval l = val l) ∧ (most < val l → most < sval l) := by
  induction l using snoc_ind with
  | h0 => simp [val, sval, most]
  | h1 l c ih =>
    rw [all_snoc, Bool.and_eq_true] at h
    obtain ⟨⟨a0, a1⟩, a2, a3⟩ := ih h.1
    have hv := val_nonneg h.1
    have hd := dval_range h.2
    rw [val_snoc, sval_snoc]
    unfold most at *
    by_cases c1 : 115292150460684697 < sval l
    · rw [if_pos c1]
      by_cases c2 : val l ≤ 1152921504606846976
      · have := a2 c2; omega
      · omega
    · rw [if_neg c1]
      by_cases c2 : val l ≤ 1152921504606846976
      · have := a2 c2; omega
      · have := a3 (by omega); omega
theorem sign_sval {l : List UInt8} (h : l.all dig = true) (b : Bool) : signE (sval l) b = signE (val l) b ∧ signN (sval l) b = signN (val l) b := by
  obtain ⟨⟨a0, a1⟩, a2, a3⟩ := sval_val h
  by_cases c : val l ≤ most
  · rw [a2 c]; exact ⟨rfl, rfl⟩
  · have c' : most < val l := by omega
    have c2 := a3 c'
    have z1 : val l ≠ 0 := by unfold most at *; omega
    have z2 : sval l ≠ 0 := by unfold most at *; omega
    simp [signE, signN, c', c2, z1, z2]
theorem dec_length (n : Nat) : 1 ≤ (dec n).length := by
  unfold dec
  split <;> simp
theorem dec_small {n : Nat} (h : n < 10) : dec n = [UInt8.ofNat (48 + n)] := by rw [dec]; simp [h]
theorem dec_big {n : Nat} (h : ¬ n < 10) : dec n = dec (n / 10) ++ [UInt8.ofNat (48 + n % 10)] := by rw [dec]; simp [h]
theorem dval_of (d : Nat) (h : d < 10) : dval (UInt8.ofNat (48 + d)) = d := by
  unfold dval
  rw [UInt8.toNat_ofNat']
  omega
theorem dig_of (d : Nat) (h : d < 10) : dig (UInt8.ofNat (48 + d)) = true := by
  rw [dig_true, UInt8.toNat_ofNat']
  omega
theorem dec_dig (n : Nat) : (dec n).all dig = true := by
  induction n using dec.induct with
  | case1 n h => rw [dec_small h, List.all_cons, dig_of n h]; rfl
  | case2 n h ih => rw [dec_big h, all_snoc, ih, dig_of _ (by omega)]; rfl
theorem dec_val (n : Nat) : val (dec n) = n := by
  induction n using dec.induct with
  | case1 n h => rw [dec_small h]; show 10 * 0 + dval _ = _; rw [dval_of n h]; omega
  | case2 n h ih => rw [dec_big h, val_snoc, ih, dval_of _ (by omega)]; omega
theorem dec_head (n : Nat) (hn : 0 < n) : (dec n).headD 0 ≠ 48 := by
  induction n using dec.induct with
  | case1 n h =>
    rw [dec_small h]
    intro e
    have := congrArg UInt8.toNat e
    rw [List.headD_cons, UInt8.toNat_ofNat'] at this
    have h48 : (48 : UInt8).toNat = 48 := rfl
    omega
  | case2 n h ih =>
    have e := ih (by omega)
    rw [dec_big h]
    have hl := dec_length (n / 10)
    cases hd : dec (n / 10) with
    | nil => rw [hd] at hl; simp at hl
    | cons a t => rw [hd] at e; simpa using e
theorem dec_digits (n : Nat) : digits (dec n) = true := by
  unfold digits
  rw [dec_dig]
  by_cases h : n < 10
  · rw [dec_small h]; simp
  · have h1 := dec_head n (by omega)
    have hl : 1 < (dec n).length := by
      rw [dec_big h]; have := dec_length (n / 10); simp; omega
    rw [(bne_iff_ne).2 h1, decide_eq_true hl]
    simp
/-- there is one way to write a number -/
theorem dec_of {l : List UInt8} (h : digits l = true) : dec (val l).toNat = l := by
  have hd : l.all dig = true := by unfold digits at h; simp only [Bool.and_eq_true] at h; exact h.1
  have key : ∀ l : List UInt8, l.all dig = true → l ≠ [] → (l.length = 1 ∨ l.headD 0 ≠ 48) → dec (val l).toNat = l := by
    intro l
    induction l using snoc_ind with
    | h0 => exact fun _ h => absurd rfl h
    | h1 l c ih =>
    intro h _ h2
    rw [all_snoc, Bool.and_eq_true] at h
    have hc := dig_true.1 h.2
    have hr := dval_range h.2
    have hof : UInt8.ofNat (48 + (dval c).toNat) = c := by
      have : 48 + (dval c).toNat = c.toNat := by unfold dval at *; omega
      rw [this]; simp
    cases hl : l with
    | nil =>
      have e : val ([] ++ [c]) = dval c := by simp [val]
      rw [e, dec_small (by omega), hof]
      rfl
    | cons a t =>
      rw [← hl]
      have hne : l ≠ [] := by rw [hl]; simp
      have hh : l.headD 0 ≠ 48 := by
        rcases h2 with h2 | h2
        · rw [hl] at h2; simp at h2
        · rw [hl] at h2 ⊢; simpa using h2
      have e := ih h.1 hne (Or.inr hh)
      have hpos : 0 < val l := by
        rcases Int.lt_or_eq_of_le (val_nonneg h.1) with p | p
        · exact p
        · rw [← p] at e
          have : dec (0 : Int).toNat = [48] := by rw [dec_small (by decide)]; rfl
          rw [this] at e
          rw [← e] at hh
          exact absurd rfl hh
      rw [val_snoc]
      have e1 : (10 * val l + dval c).toNat / 10 = (val l).toNat := by omega
      have e2 : (10 * val l + dval c).toNat % 10 = (dval c).toNat := by omega
      rw [dec_big (by omega), e1, e2, e, hof]
  unfold digits at h
  simp only [Bool.and_eq_true, Bool.or_eq_true, beq_iff_eq, decide_eq_true_eq, bne_iff_ne, ne_eq] at h
  refine key l hd ?_ ?_
  · intro e; rw [e] at h; simp at h
  · rcases h.2 with h | h
    · exact Or.inl h
    · exact Or.inr h.2
end WM
