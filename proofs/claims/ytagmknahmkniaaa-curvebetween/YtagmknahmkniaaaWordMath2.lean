/- Numbers and money as texts: read as they were written, written as they were read. -/
import Derived.Test.YtagmknahmkniaaaWordMath
namespace WM

/-- how a number is written -/
def textL (n : Int) : List UInt8 := if n < 0 then 45 :: dec n.natAbs else dec n.natAbs
/-- money without its sign -/
def money (a : Nat) : List UInt8 := dec (a / 100) ++ [46, UInt8.ofNat (48 + a / 10 % 10), UInt8.ofNat (48 + a % 10)]
def moneyL (n : Int) : List UInt8 := if n < 0 then 45 :: money n.natAbs else money n.natAbs
/-- is it money, without a sign -/
def cok (m : List UInt8) : Bool := decide (4 ≤ m.length) && (m.getD (m.length - 3) 0 == 46) && digits (m.take (m.length - 3)) && (m.drop (m.length - 2)).all dig
def cval (m : List UInt8) : Int := val (m.take (m.length - 3) ++ m.drop (m.length - 2))
def centsE (l : List UInt8) : Int := if cok (cut l) = true then signE (cval (cut l)) (below l) else 5
def centsN (l : List UInt8) : Int := if cok (cut l) = true then signN (cval (cut l)) (below l) else 0

theorem digits_all {l : List UInt8} (h : digits l = true) : l.all dig = true := by unfold digits at h; simp only [Bool.and_eq_true] at h; exact h.1
theorem digits_ne {l : List UInt8} (h : digits l = true) : 1 ≤ l.length := by
  cases l with
  | nil => simp [digits] at h
  | cons a t => simp
theorem dig_ne45 {c : UInt8} (h : dig c = true) : c ≠ 45 := by
  rintro rfl
  exact absurd h (by decide)
theorem head_ne45 {l : List UInt8} (h : l.all dig = true) (hl : 1 ≤ l.length) (t : List UInt8) : ((l ++ t).headD 0 == 45) = false := by
  cases l with
  | nil => simp at hl
  | cons a l =>
    rw [List.all_cons, Bool.and_eq_true] at h
    simpa using dig_ne45 h.1
theorem cut_plain {l : List UInt8} (h : (l.headD 0 == 45) = false) : cut l = l ∧ below l = false := by
  unfold cut below
  rw [h]; simp
theorem cut_minus (l : List UInt8) : cut (45 :: l) = l ∧ below (45 :: l) = true := by simp [cut, below]
theorem of_below {l : List UInt8} (h : below l = true) : l = 45 :: cut l := by
  unfold below at h
  cases l with
  | nil => simp at h
  | cons a t =>
    have : a = 45 := by simpa using h
    rw [this, (cut_minus t).1]
theorem of_plain {l : List UInt8} (h : below l = false) : cut l = l := (cut_plain (by unfold below at h; exact h)).1
theorem cut_text (n : Int) : cut (textL n) = dec n.natAbs ∧ below (textL n) = decide (n < 0) := by
  unfold textL
  by_cases h : n < 0
  · rw [if_pos h, decide_eq_true h]; exact cut_minus _
  · rw [if_neg h, decide_eq_false h]
    have e := head_ne45 (dec_dig n.natAbs) (dec_length _) []
    rw [List.append_nil] at e
    exact cut_plain e
theorem money_head (a : Nat) : ((money a).headD 0 == 45) = false := head_ne45 (dec_dig _) (dec_length _) _
theorem cut_money (n : Int) : cut (moneyL n) = money n.natAbs ∧ below (moneyL n) = decide (n < 0) := by
  unfold moneyL
  by_cases h : n < 0
  · rw [if_pos h, decide_eq_true h]; exact cut_minus _
  · rw [if_neg h, decide_eq_false h]; exact cut_plain (money_head _)

theorem sign_abs (n : Int) : signE n.natAbs (decide (n < 0)) = (if n.natAbs ≤ most.natAbs then 0 else 3) ∧ (n.natAbs ≤ most.natAbs → signN n.natAbs (decide (n < 0)) = n) := by
  unfold signE signN most
  by_cases h : n < 0
  · have e : ¬ ((n.natAbs : Int) = 0) := by omega
    simp only [h, decide_true, e, and_false, if_false, if_true]
    constructor
    · split <;> split <;> omega
    · intro; split <;> omega
  · simp only [h, decide_false, Bool.false_eq_true, false_and, if_false]
    constructor
    · split <;> split <;> omega
    · intro; split <;> omega
theorem int_text (n : Int) : intE (textL n) = (if n.natAbs ≤ most.natAbs then 0 else 3) ∧ (n.natAbs ≤ most.natAbs → intN (textL n) = n) := by
  unfold intE intN
  obtain ⟨e1, e2⟩ := cut_text n
  rw [e1, e2, dec_val, dec_digits]
  simpa using sign_abs n

/-- what a number with its sign tells -/
theorem sign_ok {v : Int} {b : Bool} (h0 : 0 ≤ v) (h : signE v b = 0) : v ≤ most ∧ (b = true → 0 < v) ∧ signN v b = (if b = true then -v else v) := by
  unfold signE at h
  unfold signN
  split at h
  · omega
  · rename_i c1
    split at h
    · omega
    · rename_i c2
      refine ⟨by omega, fun hb => ?_, by rw [if_neg c1, if_neg c2]⟩
      rcases Int.lt_or_eq_of_le h0 with q | q
      · exact q
      · exact absurd ⟨hb, q.symm⟩ c1
theorem text_int {l : List UInt8} (h : intE l = 0) : textL (intN l) = l := by
  unfold intE at h
  unfold intN
  split at h
  · rename_i hd
    rw [if_pos hd]
    have hv := val_nonneg (digits_all hd)
    obtain ⟨_, h1, h2⟩ := sign_ok hv h
    rw [h2]
    have hw := dec_of hd
    cases hb : below l with
    | true =>
      have h1 := h1 hb
      rw [if_pos rfl]
      unfold textL
      rw [if_pos (by omega), show (-val (cut l)).natAbs = (val (cut l)).toNat by omega, hw]
      exact (of_below hb).symm
    | false =>
      rw [if_neg (by simp)]
      unfold textL
      rw [if_neg (by omega), show (val (cut l)).natAbs = (val (cut l)).toNat by omega, hw]
      exact of_plain hb
  · omega

theorem cok_parts (p : List UInt8) (c x y : UInt8) : cok (p ++ [c, x, y]) = (decide (1 ≤ p.length) && (c == 46) && digits p && (dig x && dig y)) ∧ cval (p ++ [c, x, y]) = 100 * val p + 10 * dval x + dval y := by
  have e1 : (p ++ [c, x, y]).length - 3 = p.length := by simp
  have e2 : (p ++ [c, x, y]).length - 2 = p.length + 1 := by simp
  have e3 : (p ++ [c, x, y]).take p.length = p := by simp
  have e4 : (p ++ [c, x, y]).drop (p.length + 1) = [x, y] := by
    rw [List.drop_append]; simp
  have e5 : (p ++ [c, x, y]).getD p.length 0 = c := by simp [List.getD]
  have e6 : decide (4 ≤ (p ++ [c, x, y]).length) = decide (1 ≤ p.length) := by
    rw [decide_eq_decide]; simp
  constructor
  · unfold cok
    rw [e6, e1, e2, e3, e4, e5]
    simp
  · unfold cval
    rw [e1, e2, e3, e4, show p ++ [x, y] = (p ++ [x]) ++ [y] by simp, val_snoc, val_snoc]
    omega
theorem split3 {m : List UInt8} (h : 4 ≤ m.length) : ∃ p c x y, m = p ++ [c, x, y] := by
  have h1 : (m.drop (m.length - 3)).length = 3 := by simp; omega
  obtain ⟨c, x, y, e⟩ : ∃ c x y, m.drop (m.length - 3) = [c, x, y] := by
    match hm : m.drop (m.length - 3), h1 with
    | [c, x, y], _ => exact ⟨c, x, y, rfl⟩
  exact ⟨m.take (m.length - 3), c, x, y, by rw [← e, List.take_append_drop]⟩
theorem cok_money (a : Nat) : cok (money a) = true ∧ cval (money a) = a := by
  unfold money
  obtain ⟨h1, h2⟩ := cok_parts (dec (a / 100)) 46 (UInt8.ofNat (48 + a / 10 % 10)) (UInt8.ofNat (48 + a % 10))
  rw [h1, h2, dec_digits, dec_val, dval_of _ (by omega), dval_of _ (by omega), dig_of _ (by omega), dig_of _ (by omega), decide_eq_true (dec_length _)]
  exact ⟨by simp, by omega⟩
theorem of_dval {c : UInt8} (h : dig c = true) : UInt8.ofNat (48 + (dval c).toNat) = c := by
  have := dig_true.1 h
  have : 48 + (dval c).toNat = c.toNat := by unfold dval; omega
  rw [this]; simp
theorem cok_len {m : List UInt8} (h : cok m = true) : 4 ≤ m.length := by
  unfold cok at h; simp only [Bool.and_eq_true, decide_eq_true_eq] at h; exact h.1.1.1
theorem money_of {m : List UInt8} (h : cok m = true) : 0 ≤ cval m ∧ money (cval m).toNat = m := by
  obtain ⟨p, c, x, y, rfl⟩ := split3 (cok_len h)
  obtain ⟨h1, h2⟩ := cok_parts p c x y
  rw [h1] at h
  simp only [Bool.and_eq_true, decide_eq_true_eq, beq_iff_eq] at h
  obtain ⟨⟨⟨hl, rfl⟩, hp⟩, hx, hy⟩ := h
  have v0 := val_nonneg (digits_all hp)
  have x0 := dval_range hx
  have y0 := dval_range hy
  rw [h2]
  refine ⟨by omega, ?_⟩
  unfold money
  rw [show (100 * val p + 10 * dval x + dval y).toNat / 100 = (val p).toNat by omega, show (100 * val p + 10 * dval x + dval y).toNat / 10 % 10 = (dval x).toNat by omega,
    show (100 * val p + 10 * dval x + dval y).toNat % 10 = (dval y).toNat by omega, dec_of hp, of_dval hx, of_dval hy]
theorem cents_money (n : Int) : centsE (moneyL n) = (if n.natAbs ≤ most.natAbs then 0 else 3) ∧ (n.natAbs ≤ most.natAbs → centsN (moneyL n) = n) := by
  unfold centsE centsN
  obtain ⟨e1, e2⟩ := cut_money n
  obtain ⟨e3, e4⟩ := cok_money n.natAbs
  rw [e1, e2, e3, e4]
  simpa using sign_abs n
theorem money_cents {l : List UInt8} (h : centsE l = 0) : moneyL (centsN l) = l := by
  unfold centsE at h
  unfold centsN
  split at h
  · rename_i hd
    rw [if_pos hd]
    obtain ⟨hv, hw⟩ := money_of hd
    obtain ⟨_, h1, h2⟩ := sign_ok hv h
    rw [h2]
    cases hb : below l with
    | true =>
      have h1 := h1 hb
      rw [if_pos rfl]
      unfold moneyL
      rw [if_pos (by omega), show (-cval (cut l)).natAbs = (cval (cut l)).toNat by omega, hw]
      exact (of_below hb).symm
    | false =>
      rw [if_neg (by simp)]
      unfold moneyL
      rw [if_neg (by omega), show (cval (cut l)).natAbs = (cval (cut l)).toNat by omega, hw]
      exact of_plain hb
  · omega
/-- no text is a number and money -/
theorem not_both (l : List UInt8) : intE l ≠ 0 ∨ centsE l ≠ 0 := by
  by_cases h1 : intE l = 0
  · right
    intro h2
    have hd : digits (cut l) = true := by
      unfold intE at h1; split at h1
      · assumption
      · omega
    have hc : cok (cut l) = true := by
      unfold centsE at h2; split at h2
      · assumption
      · omega
    obtain ⟨p, c, x, y, e⟩ := split3 (cok_len hc)
    rw [e] at hd hc
    rw [(cok_parts p c x y).1] at hc
    simp only [Bool.and_eq_true, decide_eq_true_eq, beq_iff_eq] at hc
    have := List.all_eq_true.1 (digits_all hd) c (by simp)
    rw [hc.1.1.2] at this
    exact absurd this (by decide)
  · exact Or.inl h1
end WM
