/- Put together: WordMath, WordMath2, WordMath3, WordMath4, CatMath, FieldMath, WordMath5, ListMath. -/
import Derived.Below
/- Texts as lists of bytes: names, digits, numbers and how they are written. -/
namespace WM

def dig (c : UInt8) : Bool := decide (48 ≤ c.toNat) && decide (c.toNat ≤ 57)
def letter (c : UInt8) : Bool := decide (97 ≤ c.toNat) && decide (c.toNat ≤ 122)
def most : Int := 1152921504606846976
/-- is it a name -/
def name (l : List UInt8) : Bool := l.all (fun c => letter c || dig c) && letter (l.headD 0) && decide (l.length ≤ 12)
/-- digits alone, no nought ahead -/
def digits (l : List UInt8) : Bool := l.all dig && (l.length == 1 || (decide (1 < l.length) && l.headD 0 != 48))
def dval (c : UInt8) : Int := (c.toNat : Int) - 48
/-- the number that digits write -/
def val (l : List UInt8) : Int := l.foldl (fun n c => 10 * n + dval c) 0
/-- the same, but that it stops above the greatest -/
def sval (l : List UInt8) : Int := l.foldl (fun n c => if 115292150460684697 < n then most + 1 else 10 * n + dval c) 0
def cut (l : List UInt8) : List UInt8 := if l.headD 0 == 45 then l.tail else l
def below (l : List UInt8) : Bool := l.headD 0 == 45
def signE (v : Int) (b : Bool) : Int := if b = true ∧ v = 0 then 5 else if most < v then 3 else 0
def signN (v : Int) (b : Bool) : Int := if b = true ∧ v = 0 then 0 else if most < v then 0 else if b = true then -v else v
def intE (l : List UInt8) : Int := if digits (cut l) = true then signE (val (cut l)) (below l) else 5
def intN (l : List UInt8) : Int := if digits (cut l) = true then signN (val (cut l)) (below l) else 0
/-- the digits of a number -/
def dec (n : Nat) : List UInt8 := if h : n < 10 then [UInt8.ofNat (48 + n)] else dec (n / 10) ++ [UInt8.ofNat (48 + n % 10)]
termination_by n
decreasing_by omega

theorem take_snoc (l : List UInt8) (k : Nat) (h : k < l.length) : l.take (k + 1) = l.take k ++ [l[k]] := List.take_succ_eq_append_getElem h
theorem all_snoc (p : UInt8 → Bool) (l : List UInt8) (c : UInt8) : (l ++ [c]).all p = (l.all p && p c) := by simp
theorem all_take {p : UInt8 → Bool} {l : List UInt8} (h : l.all p = true) (k : Nat) : (l.take k).all p = true := by
  rw [List.all_eq_true] at *
  exact fun x hx => h x (List.mem_of_mem_take hx)
theorem all_get {p : UInt8 → Bool} {l : List UInt8} (h : l.all p = true) (k : Nat) (hk : k < l.length) : p l[k] = true := List.all_eq_true.1 h _ (List.getElem_mem hk)
theorem not_all {p : UInt8 → Bool} {l : List UInt8} (k : Nat) (hk : k < l.length) (h : p l[k] = false) : l.all p = false := by
  rw [Bool.eq_false_iff]
  intro a
  rw [all_get a k hk] at h
  exact absurd h (by simp)
theorem dig_true {c : UInt8} : dig c = true ↔ 48 ≤ (c.toNat : Int) ∧ (c.toNat : Int) ≤ 57 := by unfold dig; simp; omega
theorem dig_false {c : UInt8} : dig c = false ↔ (c.toNat : Int) < 48 ∨ 57 < (c.toNat : Int) := by rw [Bool.eq_false_iff, ne_eq, dig_true]; omega
theorem letter_true {c : UInt8} : letter c = true ↔ 97 ≤ (c.toNat : Int) ∧ (c.toNat : Int) ≤ 122 := by unfold letter; simp; omega
theorem letter_false {c : UInt8} : letter c = false ↔ (c.toNat : Int) < 97 ∨ 122 < (c.toNat : Int) := by rw [Bool.eq_false_iff, ne_eq, letter_true]; omega
theorem dval_range {c : UInt8} (h : dig c = true) : 0 ≤ dval c ∧ dval c ≤ 9 := by have := dig_true.1 h; unfold dval; omega

theorem val_snoc (l : List UInt8) (c : UInt8) : val (l ++ [c]) = 10 * val l + dval c := by simp [val]
theorem sval_snoc (l : List UInt8) (c : UInt8) : sval (l ++ [c]) = if 115292150460684697 < sval l then most + 1 else 10 * sval l + dval c := by unfold sval; rw [List.foldl_append]; rfl
theorem snoc_ind {P : List UInt8 → Prop} (h0 : P []) (h1 : ∀ l c, P l → P (l ++ [c])) (l : List UInt8) : P l := by
  have : ∀ n, ∀ l : List UInt8, l.length = n → P l := by
    intro n
    induction n with
    | zero => intro l h; rw [List.length_eq_zero_iff.1 h]; exact h0
    | succ n ih =>
      intro l h
      have hne : l ≠ [] := by intro e; rw [e] at h; simp at h
      rw [← List.dropLast_concat_getLast hne]
      exact h1 _ _ (ih _ (by simp [h]))
  exact this _ l rfl
theorem val_nonneg {l : List UInt8} (h : l.all dig = true) : 0 ≤ val l := by
  induction l using snoc_ind with
  | h0 => simp [val]
  | h1 l c ih =>
    rw [all_snoc, Bool.and_eq_true] at h
    have := ih h.1
    have := dval_range h.2
    rw [val_snoc]; omega
/-- below the greatest they are one -/
theorem sval_val {l : List UInt8} (h : l.all dig = true) : (0 ≤ sval l ∧ sval l ≤ 1152921504606846979) ∧ (val l ≤ most → sval l = val l) ∧ (most < val l → most < sval l) := by
  induction l using snoc_ind with
  | h0 => simp [val, sval, most]
  | h1 l c ih =>
    rw [all_snoc, Bool.and_eq_true] at h
    obtain ⟨⟨a0, a1⟩, a2, a3⟩ := ih h.1
    have hv := val_nonneg h.1
    have hd := dval_range h.2
    rw [val_snoc, sval_snoc]
    unfold most at *
    by_cases c1 : 115292150460684697 < sval l
    · rw [if_pos c1]
      by_cases c2 : val l ≤ 1152921504606846976
      · have := a2 c2; omega
      · omega
    · rw [if_neg c1]
      by_cases c2 : val l ≤ 1152921504606846976
      · have := a2 c2; omega
      · have := a3 (by omega); omega
theorem sign_sval {l : List UInt8} (h : l.all dig = true) (b : Bool) : signE (sval l) b = signE (val l) b ∧ signN (sval l) b = signN (val l) b := by
  obtain ⟨⟨a0, a1⟩, a2, a3⟩ := sval_val h
  by_cases c : val l ≤ most
  · rw [a2 c]; exact ⟨rfl, rfl⟩
  · have c' : most < val l := by omega
    have c2 := a3 c'
    have z1 : val l ≠ 0 := by unfold most at *; omega
    have z2 : sval l ≠ 0 := by unfold most at *; omega
    simp [signE, signN, c', c2, z1, z2]
theorem dec_length (n : Nat) : 1 ≤ (dec n).length := by
  unfold dec
  split <;> simp
theorem dec_small {n : Nat} (h : n < 10) : dec n = [UInt8.ofNat (48 + n)] := by rw [dec]; simp [h]
theorem dec_big {n : Nat} (h : ¬ n < 10) : dec n = dec (n / 10) ++ [UInt8.ofNat (48 + n % 10)] := by rw [dec]; simp [h]
theorem dval_of (d : Nat) (h : d < 10) : dval (UInt8.ofNat (48 + d)) = d := by
  unfold dval
  rw [UInt8.toNat_ofNat']
  omega
theorem dig_of (d : Nat) (h : d < 10) : dig (UInt8.ofNat (48 + d)) = true := by
  rw [dig_true, UInt8.toNat_ofNat']
  omega
theorem dec_dig (n : Nat) : (dec n).all dig = true := by
  induction n using dec.induct with
  | case1 n h => rw [dec_small h, List.all_cons, dig_of n h]; rfl
  | case2 n h ih => rw [dec_big h, all_snoc, ih, dig_of _ (by omega)]; rfl
theorem dec_val (n : Nat) : val (dec n) = n := by
  induction n using dec.induct with
  | case1 n h => rw [dec_small h]; show 10 * 0 + dval _ = _; rw [dval_of n h]; omega
  | case2 n h ih => rw [dec_big h, val_snoc, ih, dval_of _ (by omega)]; omega
theorem dec_head (n : Nat) (hn : 0 < n) : (dec n).headD 0 ≠ 48 := by
  induction n using dec.induct with
  | case1 n h =>
    rw [dec_small h]
    intro e
    have := congrArg UInt8.toNat e
    rw [List.headD_cons, UInt8.toNat_ofNat'] at this
    have h48 : (48 : UInt8).toNat = 48 := rfl
    omega
  | case2 n h ih =>
    have e := ih (by omega)
    rw [dec_big h]
    have hl := dec_length (n / 10)
    cases hd : dec (n / 10) with
    | nil => rw [hd] at hl; simp at hl
    | cons a t => rw [hd] at e; simpa using e
theorem dec_digits (n : Nat) : digits (dec n) = true := by
  unfold digits
  rw [dec_dig]
  by_cases h : n < 10
  · rw [dec_small h]; simp
  · have h1 := dec_head n (by omega)
    have hl : 1 < (dec n).length := by
      rw [dec_big h]; have := dec_length (n / 10); simp; omega
    rw [(bne_iff_ne).2 h1, decide_eq_true hl]
    simp
/-- there is one way to write a number -/
theorem dec_of {l : List UInt8} (h : digits l = true) : dec (val l).toNat = l := by
  have hd : l.all dig = true := by unfold digits at h; simp only [Bool.and_eq_true] at h; exact h.1
  have key : ∀ l : List UInt8, l.all dig = true → l ≠ [] → (l.length = 1 ∨ l.headD 0 ≠ 48) → dec (val l).toNat = l := by
    intro l
    induction l using snoc_ind with
    | h0 => exact fun _ h => absurd rfl h
    | h1 l c ih =>
    intro h _ h2
    rw [all_snoc, Bool.and_eq_true] at h
    have hc := dig_true.1 h.2
    have hr := dval_range h.2
    have hof : UInt8.ofNat (48 + (dval c).toNat) = c := by
      have : 48 + (dval c).toNat = c.toNat := by unfold dval at *; omega
      rw [this]; simp
    cases hl : l with
    | nil =>
      have e : val ([] ++ [c]) = dval c := by simp [val]
      rw [e, dec_small (by omega), hof]
      rfl
    | cons a t =>
      rw [← hl]
      have hne : l ≠ [] := by rw [hl]; simp
      have hh : l.headD 0 ≠ 48 := by
        rcases h2 with h2 | h2
        · rw [hl] at h2; simp at h2
        · rw [hl] at h2 ⊢; simpa using h2
      have e := ih h.1 hne (Or.inr hh)
      have hpos : 0 < val l := by
        rcases Int.lt_or_eq_of_le (val_nonneg h.1) with p | p
        · exact p
        · rw [← p] at e
          have : dec (0 : Int).toNat = [48] := by rw [dec_small (by decide)]; rfl
          rw [this] at e
          rw [← e] at hh
          exact absurd rfl hh
      rw [val_snoc]
      have e1 : (10 * val l + dval c).toNat / 10 = (val l).toNat := by omega
      have e2 : (10 * val l + dval c).toNat % 10 = (dval c).toNat := by omega
      rw [dec_big (by omega), e1, e2, e, hof]
  unfold digits at h
  simp only [Bool.and_eq_true, Bool.or_eq_true, beq_iff_eq, decide_eq_true_eq, bne_iff_ne, ne_eq] at h
  refine key l hd ?_ ?_
  · intro e; rw [e] at h; simp at h
  · rcases h.2 with h | h
    · exact Or.inl h
    · exact Or.inr h.2
end WM

/- Numbers and money as texts: read as they were written, written as they were read. -/
namespace WM

/-- how a number is written -/
def textL (n : Int) : List UInt8 := if n < 0 then 45 :: dec n.natAbs else dec n.natAbs
/-- money without its sign -/
def money (a : Nat) : List UInt8 := dec (a / 100) ++ [46, UInt8.ofNat (48 + a / 10 % 10), UInt8.ofNat (48 + a % 10)]
def moneyL (n : Int) : List UInt8 := if n < 0 then 45 :: money n.natAbs else money n.natAbs
/-- is it money, without a sign -/
def cok (m : List UInt8) : Bool := decide (4 ≤ m.length) && (m.getD (m.length - 3) 0 == 46) && digits (m.take (m.length - 3)) && (m.drop (m.length - 2)).all dig
def cval (m : List UInt8) : Int := val (m.take (m.length - 3) ++ m.drop (m.length - 2))
def centsE (l : List UInt8) : Int := if cok (cut l) = true then signE (cval (cut l)) (below l) else 5
def centsN (l : List UInt8) : Int := if cok (cut l) = true then signN (cval (cut l)) (below l) else 0

theorem digits_all {l : List UInt8} (h : digits l = true) : l.all dig = true := by unfold digits at h; simp only [Bool.and_eq_true] at h; exact h.1
theorem digits_ne {l : List UInt8} (h : digits l = true) : 1 ≤ l.length := by
  cases l with
  | nil => simp [digits] at h
  | cons a t => simp
theorem dig_ne45 {c : UInt8} (h : dig c = true) : c ≠ 45 := by
  rintro rfl
  exact absurd h (by decide)
theorem head_ne45 {l : List UInt8} (h : l.all dig = true) (hl : 1 ≤ l.length) (t : List UInt8) : ((l ++ t).headD 0 == 45) = false := by
  cases l with
  | nil => simp at hl
  | cons a l =>
    rw [List.all_cons, Bool.and_eq_true] at h
    simpa using dig_ne45 h.1
theorem cut_plain {l : List UInt8} (h : (l.headD 0 == 45) = false) : cut l = l ∧ below l = false := by
  unfold cut below
  rw [h]; simp
theorem cut_minus (l : List UInt8) : cut (45 :: l) = l ∧ below (45 :: l) = true := by simp [cut, below]
theorem of_below {l : List UInt8} (h : below l = true) : l = 45 :: cut l := by
  unfold below at h
  cases l with
  | nil => simp at h
  | cons a t =>
    have : a = 45 := by simpa using h
    rw [this, (cut_minus t).1]
theorem of_plain {l : List UInt8} (h : below l = false) : cut l = l := (cut_plain (by unfold below at h; exact h)).1
theorem cut_text (n : Int) : cut (textL n) = dec n.natAbs ∧ below (textL n) = decide (n < 0) := by
  unfold textL
  by_cases h : n < 0
  · rw [if_pos h, decide_eq_true h]; exact cut_minus _
  · rw [if_neg h, decide_eq_false h]
    have e := head_ne45 (dec_dig n.natAbs) (dec_length _) []
    rw [List.append_nil] at e
    exact cut_plain e
theorem money_head (a : Nat) : ((money a).headD 0 == 45) = false := head_ne45 (dec_dig _) (dec_length _) _
theorem cut_money (n : Int) : cut (moneyL n) = money n.natAbs ∧ below (moneyL n) = decide (n < 0) := by
  unfold moneyL
  by_cases h : n < 0
  · rw [if_pos h, decide_eq_true h]; exact cut_minus _
  · rw [if_neg h, decide_eq_false h]; exact cut_plain (money_head _)

theorem sign_abs (n : Int) : signE n.natAbs (decide (n < 0)) = (if n.natAbs ≤ most.natAbs then 0 else 3) ∧ (n.natAbs ≤ most.natAbs → signN n.natAbs (decide (n < 0)) = n) := by
  unfold signE signN most
  by_cases h : n < 0
  · have e : ¬ ((n.natAbs : Int) = 0) := by omega
    simp only [h, decide_true, e, and_false, if_false, if_true]
    constructor
    · split <;> split <;> omega
    · intro; split <;> omega
  · simp only [h, decide_false, Bool.false_eq_true, false_and, if_false]
    constructor
    · split <;> split <;> omega
    · intro; split <;> omega
theorem int_text (n : Int) : intE (textL n) = (if n.natAbs ≤ most.natAbs then 0 else 3) ∧ (n.natAbs ≤ most.natAbs → intN (textL n) = n) := by
  unfold intE intN
  obtain ⟨e1, e2⟩ := cut_text n
  rw [e1, e2, dec_val, dec_digits]
  simpa using sign_abs n

/-- what a number with its sign tells -/
theorem sign_ok {v : Int} {b : Bool} (h0 : 0 ≤ v) (h : signE v b = 0) : v ≤ most ∧ (b = true → 0 < v) ∧ signN v b = (if b = true then -v else v) := by
  unfold signE at h
  unfold signN
  split at h
  · omega
  · rename_i c1
    split at h
    · omega
    · rename_i c2
      refine ⟨by omega, fun hb => ?_, by rw [if_neg c1, if_neg c2]⟩
      rcases Int.lt_or_eq_of_le h0 with q | q
      · exact q
      · exact absurd ⟨hb, q.symm⟩ c1
theorem text_int {l : List UInt8} (h : intE l = 0) : textL (intN l) = l := by
  unfold intE at h
  unfold intN
  split at h
  · rename_i hd
    rw [if_pos hd]
    have hv := val_nonneg (digits_all hd)
    obtain ⟨_, h1, h2⟩ := sign_ok hv h
    rw [h2]
    have hw := dec_of hd
    cases hb : below l with
    | true =>
      have h1 := h1 hb
      rw [if_pos rfl]
      unfold textL
      rw [if_pos (by omega), show (-val (cut l)).natAbs = (val (cut l)).toNat by omega, hw]
      exact (of_below hb).symm
    | false =>
      rw [if_neg (by simp)]
      unfold textL
      rw [if_neg (by omega), show (val (cut l)).natAbs = (val (cut l)).toNat by omega, hw]
      exact of_plain hb
  · omega

theorem cok_parts (p : List UInt8) (c x y : UInt8) : cok (p ++ [c, x, y]) = (decide (1 ≤ p.length) && (c == 46) && digits p && (dig x && dig y)) ∧ cval (p ++ [c, x, y]) = 100 * val p + 10 * dval x + dval y := by
  have e1 : (p ++ [c, x, y]).length - 3 = p.length := by simp
  have e2 : (p ++ [c, x, y]).length - 2 = p.length + 1 := by simp
  have e3 : (p ++ [c, x, y]).take p.length = p := by simp
  have e4 : (p ++ [c, x, y]).drop (p.length + 1) = [x, y] := by
    rw [List.drop_append]; simp
  have e5 : (p ++ [c, x, y]).getD p.length 0 = c := by simp [List.getD]
  have e6 : decide (4 ≤ (p ++ [c, x, y]).length) = decide (1 ≤ p.length) := by
    rw [decide_eq_decide]; simp
  constructor
  · unfold cok
    rw [e6, e1, e2, e3, e4, e5]
    simp
  · unfold cval
    rw [e1, e2, e3, e4, show p ++ [x, y] = (p ++ [x]) ++ [y] by simp, val_snoc, val_snoc]
    omega
theorem split3 {m : List UInt8} (h : 4 ≤ m.length) : ∃ p c x y, m = p ++ [c, x, y] := by
  have h1 : (m.drop (m.length - 3)).length = 3 := by simp; omega
  obtain ⟨c, x, y, e⟩ : ∃ c x y, m.drop (m.length - 3) = [c, x, y] := by
    match hm : m.drop (m.length - 3), h1 with
    | [c, x, y], _ => exact ⟨c, x, y, rfl⟩
  exact ⟨m.take (m.length - 3), c, x, y, by rw [← e, List.take_append_drop]⟩
theorem cok_money (a : Nat) : cok (money a) = true ∧ cval (money a) = a := by
  unfold money
  obtain ⟨h1, h2⟩ := cok_parts (dec (a / 100)) 46 (UInt8.ofNat (48 + a / 10 % 10)) (UInt8.ofNat (48 + a % 10))
  rw [h1, h2, dec_digits, dec_val, dval_of _ (by omega), dval_of _ (by omega), dig_of _ (by omega), dig_of _ (by omega), decide_eq_true (dec_length _)]
  exact ⟨by simp, by omega⟩
theorem of_dval {c : UInt8} (h : dig c = true) : UInt8.ofNat (48 + (dval c).toNat) = c := by
  have := dig_true.1 h
  have : 48 + (dval c).toNat = c.toNat := by unfold dval; omega
  rw [this]; simp
theorem cok_len {m : List UInt8} (h : cok m = true) : 4 ≤ m.length := by
  unfold cok at h; simp only [Bool.and_eq_true, decide_eq_true_eq] at h; exact h.1.1.1
theorem money_of {m : List UInt8} (h : cok m = true) : 0 ≤ cval m ∧ money (cval m).toNat = m := by
  obtain ⟨p, c, x, y, rfl⟩ := split3 (cok_len h)
  obtain ⟨h1, h2⟩ := cok_parts p c x y
  rw [h1] at h
  simp only [Bool.and_eq_true, decide_eq_true_eq, beq_iff_eq] at h
  obtain ⟨⟨⟨hl, rfl⟩, hp⟩, hx, hy⟩ := h
  have v0 := val_nonneg (digits_all hp)
  have x0 := dval_range hx
  have y0 := dval_range hy
  rw [h2]
  refine ⟨by omega, ?_⟩
  unfold money
  rw [show (100 * val p + 10 * dval x + dval y).toNat / 100 = (val p).toNat by omega, show (100 * val p + 10 * dval x + dval y).toNat / 10 % 10 = (dval x).toNat by omega,
    show (100 * val p + 10 * dval x + dval y).toNat % 10 = (dval y).toNat by omega, dec_of hp, of_dval hx, of_dval hy]
theorem cents_money (n : Int) : centsE (moneyL n) = (if n.natAbs ≤ most.natAbs then 0 else 3) ∧ (n.natAbs ≤ most.natAbs → centsN (moneyL n) = n) := by
  unfold centsE centsN
  obtain ⟨e1, e2⟩ := cut_money n
  obtain ⟨e3, e4⟩ := cok_money n.natAbs
  rw [e1, e2, e3, e4]
  simpa using sign_abs n
theorem money_cents {l : List UInt8} (h : centsE l = 0) : moneyL (centsN l) = l := by
  unfold centsE at h
  unfold centsN
  split at h
  · rename_i hd
    rw [if_pos hd]
    obtain ⟨hv, hw⟩ := money_of hd
    obtain ⟨_, h1, h2⟩ := sign_ok hv h
    rw [h2]
    cases hb : below l with
    | true =>
      have h1 := h1 hb
      rw [if_pos rfl]
      unfold moneyL
      rw [if_pos (by omega), show (-cval (cut l)).natAbs = (cval (cut l)).toNat by omega, hw]
      exact (of_below hb).symm
    | false =>
      rw [if_neg (by simp)]
      unfold moneyL
      rw [if_neg (by omega), show (cval (cut l)).natAbs = (cval (cut l)).toNat by omega, hw]
      exact of_plain hb
  · omega
/-- no text is a number and money -/
theorem not_both (l : List UInt8) : intE l ≠ 0 ∨ centsE l ≠ 0 := by
  by_cases h1 : intE l = 0
  · right
    intro h2
    have hd : digits (cut l) = true := by
      unfold intE at h1; split at h1
      · assumption
      · omega
    have hc : cok (cut l) = true := by
      unfold centsE at h2; split at h2
      · assumption
      · omega
    obtain ⟨p, c, x, y, e⟩ := split3 (cok_len hc)
    rw [e] at hd hc
    rw [(cok_parts p c x y).1] at hc
    simp only [Bool.and_eq_true, decide_eq_true_eq, beq_iff_eq] at hc
    have := List.all_eq_true.1 (digits_all hd) c (by simp)
    rw [hc.1.1.2] at this
    exact absurd this (by decide)
  · exact Or.inl h1
end WM

/- Lines, fields and how they are put together. -/
namespace WM

/-- one byte more: what is complete, and what is under way -/
def step (b : UInt8) (s : List (List UInt8) × List UInt8) (c : UInt8) : List (List UInt8) × List UInt8 := if c = b then (s.1 ++ [s.2], []) else (s.1, s.2 ++ [c])
def run (b : UInt8) (l : List UInt8) : List (List UInt8) × List UInt8 := l.foldl (step b) ([], [])
/-- all pieces, the last one too -/
def pieces (b : UInt8) (l : List UInt8) : List (List UInt8) := (run b l).1 ++ [(run b l).2]
def plain (c : UInt8) : Bool := decide (32 ≤ c.toNat) && decide (c.toNat ≤ 126)
def full (ps : List (List UInt8)) : Bool := ps.all fun p => decide (p ≠ [])
def fieldsE (l : List UInt8) : Int := if 512 < l.length then 8 else if l = [] then 0 else if (l.all plain && full (pieces 32 l)) = true then 0 else 5
def fieldsN (l : List UInt8) : List (List UInt8) := if fieldsE l = 0 ∧ l ≠ [] then pieces 32 l else []
def linesE (l : List UInt8) : Int := if 65536 < l.length then 8 else 0
def linesN (l : List UInt8) : List (List UInt8) := if 65536 < l.length then [] else if (run 10 l).2 = [] then (run 10 l).1 else pieces 10 l
def joinL : List (List UInt8) → List UInt8
  | [] => []
  | [p] => p
  | p :: q :: r => p ++ 32 :: joinL (q :: r)

theorem run_nil (b : UInt8) : run b [] = ([], []) := rfl
theorem run_snoc (b : UInt8) (l : List UInt8) (c : UInt8) : run b (l ++ [c]) = step b (run b l) c := by simp [run]
theorem run_snoc_at (b : UInt8) (l : List UInt8) : run b (l ++ [b]) = ((run b l).1 ++ [(run b l).2], []) := by rw [run_snoc]; simp [step]
theorem run_snoc_in {b c : UInt8} (h : c ≠ b) (l : List UInt8) : run b (l ++ [c]) = ((run b l).1, (run b l).2 ++ [c]) := by rw [run_snoc]; simp [step, h]
theorem joinL_snoc (ps : List (List UInt8)) (q : List UInt8) (h : ps ≠ []) : joinL (ps ++ [q]) = joinL ps ++ 32 :: q := by
  induction ps with
  | nil => exact absurd rfl h
  | cons p ps ih =>
    cases ps with
    | nil => rfl
    | cons r rs =>
      have e := ih (by simp)
      show p ++ 32 :: joinL (r :: rs ++ [q]) = (p ++ 32 :: joinL (r :: rs)) ++ 32 :: q
      rw [e]; simp
theorem joinL_one (q : List UInt8) : joinL ([] ++ [q]) = q := rfl
theorem joinL_last (ps : List (List UInt8)) (q : List UInt8) (c : UInt8) : joinL (ps ++ [q ++ [c]]) = joinL (ps ++ [q]) ++ [c] := by
  by_cases h : ps = []
  · subst h; rfl
  · rw [joinL_snoc _ _ h, joinL_snoc _ _ h]; simp
/-- a line's fields put together are the line -/
theorem join_pieces (l : List UInt8) : joinL (pieces 32 l) = l := by
  induction l using snoc_ind with
  | h0 => rfl
  | h1 l c ih =>
    unfold pieces at *
    by_cases h : c = 32
    · subst h
      rw [run_snoc_at]
      show joinL ((run 32 l).1 ++ [(run 32 l).2] ++ [[]]) = _
      rw [joinL_snoc _ _ (by simp), ih]
    · rw [run_snoc_in h]
      show joinL ((run 32 l).1 ++ [(run 32 l).2 ++ [c]]) = _
      rw [joinL_last, ih]
theorem foldl_in {b : UInt8} (q : List UInt8) (h : b ∉ q) (s : List (List UInt8) × List UInt8) : q.foldl (step b) s = (s.1, s.2 ++ q) := by
  induction q generalizing s with
  | nil => simp
  | cons c q ih =>
    have h1 : c ≠ b := fun e => h (by rw [e]; simp)
    have h2 : b ∉ q := fun e => h (by simp [e])
    rw [List.foldl_cons, ih h2]
    simp [step, h1]
/-- texts without a blank, put together, are cut into these -/
theorem pieces_join (ps : List (List UInt8)) (hne : ps ≠ []) (h : ∀ p ∈ ps, (32 : UInt8) ∉ p) : pieces 32 (joinL ps) = ps := by
  have key : ∀ n, ∀ ps : List (List UInt8), ps.length = n → ps ≠ [] → (∀ p ∈ ps, (32 : UInt8) ∉ p) → pieces 32 (joinL ps) = ps := by
    intro n
    induction n with
    | zero => intro ps h0 hne _; exact absurd (List.length_eq_zero_iff.1 h0) hne
    | succ n ih =>
      intro ps h0 hne hp
      rw [← List.dropLast_concat_getLast hne] at hp ⊢
      have hl : ps.dropLast.length = n := by rw [List.length_dropLast]; omega
      generalize ps.dropLast = qs at *
      generalize ps.getLast hne = q at *
      have hq : (32 : UInt8) ∉ q := hp q (by simp)
      by_cases hz : qs = []
      · subst hz
        unfold pieces run
        rw [joinL_one, foldl_in q hq]
        simp
      · have e := ih qs hl hz (fun p hp' => hp p (by simp [hp']))
        rw [joinL_snoc _ _ hz]
        unfold pieces run at *
        rw [List.foldl_append, List.foldl_cons]
        generalize List.foldl (step 32) ([], []) (joinL qs) = st at *
        rw [foldl_in q hq]
        simp [step, e]
  exact key _ ps rfl hne h
theorem run_no {b : UInt8} {l : List UInt8} (h : b ∉ l) : run b l = ([], l) := by unfold run; rw [foldl_in l h]; simp
theorem no_of_run {b : UInt8} (l : List UInt8) : (run b l).1 = [] → b ∉ l ∧ (run b l).2 = l := by
  induction l using snoc_ind with
  | h0 => intro _; simp [run_nil]
  | h1 l c ih =>
    by_cases h : c = b
    · subst h; rw [run_snoc_at]; intro e; simp at e
    · rw [run_snoc_in h]
      intro e
      obtain ⟨h1, h2⟩ := ih e
      refine ⟨?_, by rw [h2]⟩
      simp only [List.mem_append, List.mem_singleton]
      rintro (a | a)
      · exact h1 a
      · exact h a.symm
/-- a line that is one field -/
theorem one_field {l : List UInt8} : (fieldsE l = 0 ∧ (fieldsN l).length = 1) ↔ (l ≠ [] ∧ l.length ≤ 512 ∧ l.all plain = true ∧ (32 : UInt8) ∉ l) := by
  constructor
  · rintro ⟨h1, h2⟩
    unfold fieldsN at h2
    by_cases hl : l = []
    · rw [if_neg (by simp [hl])] at h2; simp at h2
    · rw [if_pos ⟨h1, hl⟩] at h2
      unfold fieldsE at h1
      split at h1
      · omega
      · split at h1
        · rename_i ha hb
          rw [Bool.and_eq_true] at hb
          have : (run 32 l).1 = [] := by unfold pieces at h2; simpa using h2
          exact ⟨hl, by omega, hb.1, (no_of_run l this).1⟩
        · omega
  · rintro ⟨h1, h2, h3, h4⟩
    have hp : pieces 32 l = [l] := by unfold pieces; rw [run_no h4]; rfl
    have he : fieldsE l = 0 := by
      unfold fieldsE
      rw [if_neg (by omega), if_neg h1, hp, h3]
      simp [full, h1]
    refine ⟨he, ?_⟩
    unfold fieldsN
    rw [if_pos ⟨he, h1⟩, hp]
    rfl
theorem plain_true {c : UInt8} : plain c = true ↔ 32 ≤ (c.toNat : Int) ∧ (c.toNat : Int) ≤ 126 := by unfold plain; simp; omega
theorem plain_false {c : UInt8} : plain c = false ↔ (c.toNat : Int) < 32 ∨ 126 < (c.toNat : Int) := by rw [Bool.eq_false_iff, ne_eq, plain_true]; omega
/-- a name is one field -/
theorem name_field {l : List UInt8} (h : name l = true) : fieldsE l = 0 ∧ (fieldsN l).length = 1 := by
  unfold name at h
  simp only [Bool.and_eq_true, decide_eq_true_eq] at h
  obtain ⟨⟨ha, hb⟩, hc⟩ := h
  have hr : ∀ c ∈ l, (97 ≤ (c.toNat : Int) ∧ (c.toNat : Int) ≤ 122) ∨ (48 ≤ (c.toNat : Int) ∧ (c.toNat : Int) ≤ 57) := by
    intro c hc
    have := List.all_eq_true.1 ha c hc
    simp only [Bool.or_eq_true] at this
    rcases this with h | h
    · exact Or.inl (letter_true.1 h)
    · exact Or.inr (dig_true.1 h)
  refine one_field.2 ⟨?_, by omega, ?_, ?_⟩
  · rintro rfl
    exact absurd hb (by decide)
  · rw [List.all_eq_true]
    intro c hc
    have := hr c hc
    rw [plain_true]; omega
  · intro h
    have := hr 32 h
    have e : (32 : UInt8).toNat = 32 := rfl
    omega
theorem all_join {p : UInt8 → Bool} (h32 : p 32 = true) (ps : List (List UInt8)) (h : ∀ q ∈ ps, q.all p = true) : (joinL ps).all p = true := by
  induction ps with
  | nil => rfl
  | cons q ps ih =>
    have hq := h q (by simp)
    cases ps with
    | nil => exact hq
    | cons r rs =>
      have e := ih (fun x hx => h x (by simp [hx]))
      show (q ++ 32 :: joinL (r :: rs)).all p = true
      rw [List.all_append, List.all_cons, hq, h32, e]; rfl
/-- fields put together are cut into these again -/
theorem fields_join {ps : List (List UInt8)} (h : ∀ q ∈ ps, fieldsE q = 0 ∧ (fieldsN q).length = 1) (hl : (joinL ps).length ≤ 512) : fieldsE (joinL ps) = 0 ∧ fieldsN (joinL ps) = ps := by
  by_cases hz : ps = []
  · subst hz; exact ⟨rfl, rfl⟩
  · have h' := fun q hq => one_field.1 (h q hq)
    have hp := pieces_join ps hz (fun q hq => (h' q hq).2.2.2)
    have hn : joinL ps ≠ [] := by
      intro e
      rw [e] at hp
      have : ps = [[]] := by rw [← hp]; rfl
      exact (h' [] (by rw [this]; simp)).1 rfl
    have ha := all_join (p := plain) (by decide) ps (fun q hq => (h' q hq).2.2.1)
    have hf : full ps = true := by
      unfold full
      rw [List.all_eq_true]
      intro q hq
      simpa using (h' q hq).1
    have he : fieldsE (joinL ps) = 0 := by
      unfold fieldsE
      rw [if_neg (by omega), if_neg hn, hp, ha, hf]; rfl
    refine ⟨he, ?_⟩
    unfold fieldsN
    rw [if_pos ⟨he, hn⟩, hp]
theorem join_fields {l : List UInt8} (h : fieldsE l = 0) : joinL (fieldsN l) = l := by
  unfold fieldsN
  by_cases hl : l = []
  · rw [if_neg (by simp [hl]), hl]; rfl
  · rw [if_pos ⟨h, hl⟩, join_pieces]
/-- what a loop has at place k: what is under way is the text from its last cut on -/
theorem run_take (b : UInt8) (l : List UInt8) (k : Nat) : ∃ f, f ≤ min k l.length ∧ (run b (l.take k)).2 = (l.take k).drop f := by
  induction k with
  | zero => exact ⟨0, by omega, by simp [run_nil]⟩
  | succ k ih =>
    obtain ⟨f, hf, e⟩ := ih
    by_cases hk : k < l.length
    · rw [take_snoc l k hk]
      by_cases hc : l[k] = b
      · refine ⟨k + 1, by omega, ?_⟩
        rw [hc, run_snoc_at]
        simp; omega
      · refine ⟨f, by omega, ?_⟩
        rw [run_snoc_in hc, e, List.drop_append_of_le_length (by simp; omega)]
    · refine ⟨f, by omega, ?_⟩
      rw [List.take_of_length_le (by omega)] at *
      exact e
end WM

/- What the program's own readers of digits reckon. -/
namespace WM

theorem digits_nil : digits [] = false := rfl
/-- one digit or more, no nought ahead -/
theorem digits_def {l : List UInt8} (h : 0 < l.length) : digits l = (!((l.headD 0 == 48) && decide (1 < l.length)) && l.all dig) := by
  unfold digits
  by_cases h1 : l.length = 1
  · have e1 : (l.length == 1) = true := by simpa using h1
    have e2 : decide (1 < l.length) = false := by simp; omega
    rw [e1, e2]; simp
  · have e1 : (l.length == 1) = false := by simpa using h1
    have e2 : decide (1 < l.length) = true := by simp; omega
    rw [e1, e2]
    cases hh : (l.headD 0 == 48) with
    | true => simp only [bne, hh]; simp
    | false => simp only [bne, hh]; simp
/-- the value, but for what is above the greatest -/
def mval (l : List UInt8) : Int := min (val l) (most + 1)
theorem val_take {l : List UInt8} (h : l.all dig = true) (k : Nat) (hk : k < l.length) : 10 * val (l.take k) ≤ val l := by
  have key : ∀ n, ∀ l : List UInt8, l.length = k + 1 + n → l.all dig = true → 10 * val (l.take k) ≤ val l := by
    intro n
    induction n with
    | zero =>
      intro l hl hd
      have e : l = l.take k ++ [l[k]] := by
        rw [← take_snoc l k (by omega), List.take_of_length_le (by omega)]
      have h1 := dval_range (all_get hd k (by omega))
      have h2 : val l = 10 * val (l.take k) + dval l[k] := by
        conv => lhs; rw [e]
        rw [val_snoc]
      omega
    | succ n ih =>
      intro l hl hd
      have e : l = l.take (k + 1 + n) ++ [l[k + 1 + n]] := by
        rw [← take_snoc l _ (by omega), List.take_of_length_le (by omega)]
      have h0 := ih (l.take (k + 1 + n)) (by rw [List.length_take]; omega) (all_take hd _)
      rw [List.take_take, show min k (k + 1 + n) = k by omega] at h0
      have h1 := dval_range (all_get hd (k + 1 + n) (by omega))
      have h2 : val l = 10 * val (l.take (k + 1 + n)) + dval l[k + 1 + n] := by
        conv => lhs; rw [e]
        rw [val_snoc]
      have h3 := val_nonneg (all_take hd (k + 1 + n))
      omega
  exact key (l.length - (k + 1)) l (by omega) h
theorem mval_stop {l : List UInt8} (h : l.all dig = true) (k : Nat) (hk : k < l.length) (hv : 115292150460684697 < mval (l.take k)) : mval l = 1152921504606846977 := by
  have := val_take h k hk
  unfold mval most at *
  omega
theorem mval_step {l : List UInt8} (h : l.all dig = true) {c : UInt8} (hc : dig c = true) (hv : ¬ 115292150460684697 < mval l) : mval (l ++ [c]) = min (10 * mval l + dval c) 1152921504606846977 ∧ 0 ≤ mval l := by
  have := val_nonneg h
  have := dval_range hc
  unfold mval most at *
  rw [val_snoc]
  omega
theorem mval_range {l : List UInt8} (h : l.all dig = true) : 0 ≤ mval l ∧ mval l ≤ 1152921504606846977 := by
  have := val_nonneg h
  unfold mval most at *
  omega
theorem sign_mval {l : List UInt8} (h : l.all dig = true) (b : Bool) : signE (mval l) b = signE (val l) b ∧ signN (mval l) b = signN (val l) b := by
  have := val_nonneg h
  by_cases c : val l ≤ most
  · have : mval l = val l := by unfold mval; omega
    rw [this]; exact ⟨rfl, rfl⟩
  · have c' : most < val l := by omega
    have c2 : most < mval l := by unfold mval; omega
    have z1 : val l ≠ 0 := by unfold most at *; omega
    have z2 : mval l ≠ 0 := by unfold most at *; omega
    simp [signE, signN, c', c2, z1, z2]
theorem sval_stop {l : List UInt8} (h : l.all dig = true) (k : Nat) (hk : k < l.length) (hv : 115292150460684697 < sval (l.take k)) : most < val l := by
  have h1 := val_take h k hk
  have h2 := sval_val (all_take h k)
  have h3 := val_nonneg (all_take h k)
  unfold most at *
  by_cases c : val (l.take k) ≤ 1152921504606846976
  · have := h2.2.1 c; omega
  · omega
theorem sval_over {l : List UInt8} (k : Nat) (hk : k < l.length) (hv : 115292150460684697 < sval (l.take k)) : sval l = 1152921504606846977 := by
  have key : ∀ n, k + 1 + n ≤ l.length → sval (l.take (k + 1 + n)) = 1152921504606846977 := by
    intro n
    induction n with
    | zero =>
      intro h
      rw [take_snoc l k hk, sval_snoc, if_pos hv]; rfl
    | succ n ih =>
      intro h
      have e := ih (by omega)
      rw [show k + 1 + (n + 1) = (k + 1 + n) + 1 by omega, take_snoc l _ (by omega), sval_snoc, e, if_pos (by omega)]; rfl
  have := key (l.length - (k + 1)) (by omega)
  rw [List.take_of_length_le (by omega)] at this
  exact this
/-- what the reference's reader answers -/
def rval (l : List UInt8) : Int := if most < val l then most + 1 else val l
theorem sign_cases (v : Int) (b : Bool) : signE v b = (if b = true ∧ v = 0 then 5 else if most < v then 3 else 0) := rfl
end WM

/- Pieces put together, with something between. -/
namespace WM
set_option linter.unusedVariables false
def catL (b : List UInt8) : List (List UInt8) → List UInt8
  | [] => []
  | [p] => p
  | p :: q :: r => p ++ (b ++ catL b (q :: r))
theorem catL_snoc (b : List UInt8) (ps : List (List UInt8)) (q : List UInt8) (h : ps ≠ []) : catL b (ps ++ [q]) = catL b ps ++ b ++ q := by
  induction ps with
  | nil => exact absurd rfl h
  | cons p ps ih =>
    cases ps with
    | nil => simp [catL]
    | cons r rs =>
      have e := ih (by simp)
      show p ++ (b ++ catL b (r :: rs ++ [q])) = (p ++ (b ++ catL b (r :: rs))) ++ b ++ q
      rw [e]; simp
theorem catL_one (b q : List UInt8) : catL b ([] ++ [q]) = q := rfl
theorem catL_join (ps : List (List UInt8)) : catL [32] ps = joinL ps := by
  induction ps with
  | nil => rfl
  | cons p ps ih =>
    cases ps with
    | nil => rfl
    | cons r rs => show p ++ ([32] ++ catL [32] (r :: rs)) = p ++ 32 :: joinL (r :: rs); rw [ih]; rfl
theorem catL_two (p q : List UInt8) : catL [] [p, q] = p ++ q := rfl
theorem catL_four (p q r s : List UInt8) : catL [] [p, q, r, s] = p ++ (q ++ (r ++ s)) := rfl
/-- all lengths, each with b more -/
def tl (b : Nat) (ns : List Nat) : Nat := (ns.map (· + b)).sum
theorem tl_snoc (b : Nat) (ns : List Nat) (n : Nat) : tl b (ns ++ [n]) = tl b ns + (n + b) := by simp [tl]
theorem tl_take (b : Nat) (ns : List Nat) (k : Nat) : tl b (ns.take k) ≤ tl b ns := by
  have : tl b ns = tl b (ns.take k) + tl b (ns.drop k) := by
    unfold tl
    rw [← List.sum_append, ← List.map_append, List.take_append_drop]
  omega
theorem catL_len (b : List UInt8) (ps : List (List UInt8)) : (catL b ps).length ≤ tl b.length (ps.map List.length) := by
  induction ps with
  | nil => simp [catL]
  | cons p ps ih =>
    cases ps with
    | nil => simp [catL, tl]
    | cons r rs =>
      have e : tl b.length ((p :: r :: rs).map List.length) = p.length + b.length + tl b.length ((r :: rs).map List.length) := by
        unfold tl; rw [List.map_cons, List.map_cons, List.sum_cons]
      rw [e]
      show (p ++ (b ++ catL b (r :: rs))).length ≤ _
      rw [List.length_append, List.length_append]
      omega
end WM

/- What the loops over a line hold: the fields that are complete, and where the next one begins. -/
namespace WM
set_option linter.unusedVariables false

def FI (l : List UInt8) (k f : Nat) (ps : List (List UInt8)) : Prop := k ≤ l.length ∧ f ≤ k ∧ run 32 (l.take k) = (ps, (l.take k).drop f) ∧ full ps = true ∧ (l.take k).all plain = true
def LI (l : List UInt8) (k f : Nat) (ps : List (List UInt8)) : Prop := k ≤ l.length ∧ f ≤ k ∧ run 10 (l.take k) = (ps, (l.take k).drop f)

theorem run_more (b : UInt8) (x y : List UInt8) : ∃ t, (run b (x ++ y)).1 = (run b x).1 ++ t := by
  induction y using snoc_ind with
  | h0 => exact ⟨[], by simp⟩
  | h1 y c ih =>
    obtain ⟨t, ht⟩ := ih
    rw [← List.append_assoc]
    by_cases h : c = b
    · subst h
      rw [run_snoc_at]
      exact ⟨t ++ [(run c (x ++ y)).2], by simp [ht]⟩
    · rw [run_snoc_in h]
      exact ⟨t, ht⟩
theorem run_len (b : UInt8) (l : List UInt8) : (run b l).1.length ≤ l.length := by
  induction l using snoc_ind with
  | h0 => simp [run_nil]
  | h1 l c ih =>
    by_cases h : c = b
    · subst h; rw [run_snoc_at]; simp; omega
    · rw [run_snoc_in h]; simp; omega
theorem full_append (a b : List (List UInt8)) : full (a ++ b) = (full a && full b) := by simp [full]
theorem pieces_not (l : List UInt8) (k : Nat) (h : full (run 32 (l.take k)).1 = false) : full (pieces 32 l) = false := by
  obtain ⟨t, ht⟩ := run_more 32 (l.take k) (l.drop k)
  rw [List.take_append_drop] at ht
  unfold pieces
  rw [ht, full_append, full_append, h]; rfl
theorem fields_five {l : List UInt8} (h1 : l.length ≤ 512) (h2 : l ≠ []) (h : (l.all plain && full (pieces 32 l)) = false) : fieldsE l = 5 ∧ fieldsN l = [] := by
  have e : fieldsE l = 5 := by
    unfold fieldsE
    rw [if_neg (by omega), if_neg h2, h]; rfl
  exact ⟨e, by unfold fieldsN; rw [e]; simp⟩
theorem FI.start (l : List UInt8) : FI l 0 0 [] := ⟨Nat.zero_le _, Nat.le_refl _, rfl, rfl, rfl⟩
theorem drop_snoc {l : List UInt8} {k f : Nat} (hk : k < l.length) (hf : f ≤ k) : (l.take (k + 1)).drop f = (l.take k).drop f ++ [l[k]] := by
  rw [take_snoc l k hk, List.drop_append_of_le_length (by rw [List.length_take]; omega)]
theorem drop_self (l : List UInt8) (k : Nat) : (l.take k).drop k = [] := by
  rw [List.drop_eq_nil_iff, List.length_take]; omega
theorem FI.in_ {l : List UInt8} {k f : Nat} {ps : List (List UInt8)} (h : FI l k f ps) (hk : k < l.length) (hp : plain l[k] = true) (hb : l[k] ≠ 32) : FI l (k + 1) f ps := by
  obtain ⟨_, h2, h3, h4, h5⟩ := h
  refine ⟨by omega, by omega, ?_, h4, ?_⟩
  · rw [drop_snoc hk h2, take_snoc l k hk, run_snoc_in hb, h3]
  · rw [take_snoc l k hk, all_snoc, h5, hp]; rfl
theorem FI.cut {l : List UInt8} {k f : Nat} {ps : List (List UInt8)} (h : FI l k f ps) (hk : k < l.length) (hb : l[k] = 32) (hf : f < k) : FI l (k + 1) (k + 1) (ps ++ [(l.take k).drop f]) := by
  obtain ⟨_, h2, h3, h4, h5⟩ := h
  refine ⟨by omega, by omega, ?_, ?_, ?_⟩
  · rw [drop_self, take_snoc l k hk, hb, run_snoc_at, h3]
  · rw [full_append, h4]
    simp [full]
    omega
  · rw [take_snoc l k hk, all_snoc, h5, hb]; rfl
theorem FI.bad {l : List UInt8} {k f : Nat} {ps : List (List UInt8)} (h : FI l k f ps) (hk : k < l.length) (hp : plain l[k] = false) (h1 : l.length ≤ 512) (h2 : l ≠ []) : fieldsE l = 5 ∧ fieldsN l = [] :=
  fields_five h1 h2 (by rw [not_all k hk hp]; rfl)
theorem FI.empty_in {l : List UInt8} {k : Nat} {ps : List (List UInt8)} (h : FI l k k ps) (hk : k < l.length) (hb : l[k] = 32) (h1 : l.length ≤ 512) (h2 : l ≠ []) : fieldsE l = 5 ∧ fieldsN l = [] := by
  refine fields_five h1 h2 ?_
  have : full (run 32 (l.take (k + 1))).1 = false := by
    rw [take_snoc l k hk, hb, run_snoc_at, h.2.2.1, drop_self, full_append]
    simp [full]
  rw [pieces_not l (k + 1) this]; simp
theorem FI.empty_end {l : List UInt8} {ps : List (List UInt8)} (h : FI l l.length l.length ps) (h1 : l.length ≤ 512) (h2 : l ≠ []) : fieldsE l = 5 ∧ fieldsN l = [] := by
  refine fields_five h1 h2 ?_
  have e := h.2.2.1
  rw [drop_self, List.take_of_length_le (Nat.le_refl _)] at e
  unfold pieces
  rw [e, full_append]
  simp [full]
theorem FI.done {l : List UInt8} {f : Nat} {ps : List (List UInt8)} (h : FI l l.length f ps) (hf : f < l.length) (h1 : l.length ≤ 512) (h2 : l ≠ []) : fieldsE l = 0 ∧ fieldsN l = ps ++ [(l.take l.length).drop f] := by
  obtain ⟨_, _, h3, h4, h5⟩ := h
  rw [List.take_of_length_le (Nat.le_refl _)] at *
  have hp : pieces 32 l = ps ++ [l.drop f] := by unfold pieces; rw [h3]
  have e : fieldsE l = 0 := by
    unfold fieldsE
    have h6 : full [l.drop f] = true := by simp [full]; omega
    rw [if_neg (by omega), if_neg h2, hp, full_append, h4, h5, h6]; rfl
  exact ⟨e, by unfold fieldsN; rw [if_pos ⟨e, h2⟩, hp]⟩
theorem FI.len {l : List UInt8} {k f : Nat} {ps : List (List UInt8)} (h : FI l k f ps) : ps.length ≤ l.length := by
  have := run_len 32 (l.take k)
  rw [h.2.2.1, List.length_take] at this
  simp at this; omega
theorem fields_long {l : List UInt8} (h : 512 < l.length) : fieldsE l = 8 ∧ fieldsN l = [] := by
  have e : fieldsE l = 8 := by unfold fieldsE; rw [if_pos h]
  exact ⟨e, by unfold fieldsN; rw [e]; simp⟩
theorem fields_none : fieldsE [] = 0 ∧ fieldsN [] = [] := ⟨rfl, rfl⟩

theorem LI.start (l : List UInt8) : LI l 0 0 [] := ⟨Nat.zero_le _, Nat.le_refl _, rfl⟩
theorem LI.in_ {l : List UInt8} {k f : Nat} {ps : List (List UInt8)} (h : LI l k f ps) (hk : k < l.length) (hb : l[k] ≠ 10) : LI l (k + 1) f ps := by
  obtain ⟨_, h2, h3⟩ := h
  refine ⟨by omega, by omega, ?_⟩
  rw [drop_snoc hk h2, take_snoc l k hk, run_snoc_in hb, h3]
theorem LI.cut {l : List UInt8} {k f : Nat} {ps : List (List UInt8)} (h : LI l k f ps) (hk : k < l.length) (hb : l[k] = 10) : LI l (k + 1) (k + 1) (ps ++ [(l.take k).drop f]) := by
  obtain ⟨_, h2, h3⟩ := h
  refine ⟨by omega, by omega, ?_⟩
  rw [drop_self, take_snoc l k hk, hb, run_snoc_at, h3]
theorem LI.len {l : List UInt8} {k f : Nat} {ps : List (List UInt8)} (h : LI l k f ps) : ps.length ≤ l.length := by
  have := run_len 10 (l.take k)
  rw [h.2.2, List.length_take] at this
  simp at this; omega
theorem LI.done {l : List UInt8} {f : Nat} {ps : List (List UInt8)} (h : LI l l.length f ps) (h1 : l.length ≤ 65536) :
    (f < l.length → linesN l = ps ++ [(l.take l.length).drop f]) ∧ (¬ f < l.length → linesN l = ps) := by
  obtain ⟨_, _, h3⟩ := h
  rw [List.take_of_length_le (Nat.le_refl _)] at *
  unfold linesN pieces
  rw [if_neg (by omega), h3]
  constructor
  · intro hf
    rw [if_neg]
    intro e
    have := congrArg List.length e
    simp at this; omega
  · intro hf
    rw [if_pos]
    simp; omega
theorem lines_long {l : List UInt8} (h : 65536 < l.length) : linesE l = 8 ∧ linesN l = [] := ⟨by unfold linesE; rw [if_pos h], by unfold linesN; rw [if_pos h]⟩
theorem lines_ok {l : List UInt8} (h : ¬ 65536 < l.length) : linesE l = 0 := by unfold linesE; rw [if_neg h]
end WM

/- How long pieces are; fields that are put together. -/
namespace WM
set_option linter.unusedVariables false
theorem run_le (b : UInt8) (l : List UInt8) : (∀ p ∈ (run b l).1, p.length ≤ l.length) ∧ (run b l).2.length ≤ l.length := by
  induction l using snoc_ind with
  | h0 => simp [run_nil]
  | h1 l c ih =>
    obtain ⟨h1, h2⟩ := ih
    by_cases h : c = b
    · subst h
      rw [run_snoc_at]
      refine ⟨?_, by simp⟩
      intro p hp
      rw [List.length_append]
      simp only [List.mem_append, List.mem_singleton] at hp
      rcases hp with hp | rfl
      · have := h1 p hp; omega
      · omega
    · rw [run_snoc_in h]
      refine ⟨?_, by simp; omega⟩
      intro p hp
      have := h1 p hp
      rw [List.length_append]; omega
theorem pieces_le {b : UInt8} {l p : List UInt8} (h : p ∈ pieces b l) : p.length ≤ l.length := by
  unfold pieces at h
  simp only [List.mem_append, List.mem_singleton] at h
  rcases h with h | rfl
  · exact (run_le b l).1 p h
  · exact (run_le b l).2
theorem fields_le {l p : List UInt8} (h : p ∈ fieldsN l) : p.length ≤ l.length := by
  unfold fieldsN at h
  split at h
  · exact pieces_le h
  · simp at h
theorem lines_le {l p : List UInt8} (h : p ∈ linesN l) : p.length ≤ l.length := by
  unfold linesN at h
  split at h
  · simp at h
  · split at h
    · exact (run_le 10 l).1 p h
    · exact pieces_le h
theorem tl_le (m : Nat) (ps : List (List UInt8)) (h : ∀ p ∈ ps, p.length ≤ m) : tl 1 (ps.map List.length) ≤ ps.length * (m + 1) := by
  induction ps with
  | nil => simp [tl]
  | cons p ps ih =>
    have e : tl 1 ((p :: ps).map List.length) = p.length + 1 + tl 1 (ps.map List.length) := by simp [tl]
    have h1 := h p (by simp)
    have h2 := ih (fun q hq => h q (by simp [hq]))
    rw [e, List.length_cons, Nat.succ_mul]
    omega
theorem fields_count (l : List UInt8) : (fieldsN l).length ≤ l.length + 1 := by
  unfold fieldsN
  split
  · unfold pieces
    have := run_len 32 l
    rw [List.length_append]; simp; omega
  · simp
theorem fields_short {l : List UInt8} (h : fieldsE l = 0) : l.length ≤ 512 := by
  unfold fieldsE at h
  split at h
  · omega
  · omega
theorem fields_tl {l : List UInt8} (h : fieldsE l = 0) : tl 1 ((fieldsN l).map List.length) ≤ 263169 := by
  have h1 := fields_short h
  have h2 := tl_le 512 (fieldsN l) (fun p hp => by have := fields_le hp; omega)
  have h3 := fields_count l
  have h4 : (fieldsN l).length * (512 + 1) ≤ 513 * 513 := Nat.mul_le_mul (by omega) (by omega)
  omega
theorem sign_range (v : Int) (b : Bool) (h : 0 ≤ v) : -1152921504606846976 ≤ signN v b ∧ signN v b ≤ 1152921504606846976 := by
  unfold signN most
  split
  · omega
  · split
    · omega
    · split <;> omega
theorem int_range (l : List UInt8) : -1152921504606846976 ≤ intN l ∧ intN l ≤ 1152921504606846976 := by
  unfold intN
  split
  · rename_i h; exact sign_range _ _ (val_nonneg (digits_all h))
  · omega
theorem cents_range (l : List UInt8) : -1152921504606846976 ≤ centsN l ∧ centsN l ≤ 1152921504606846976 := by
  unfold centsN
  split
  · rename_i h; exact sign_range _ _ (money_of h).1
  · omega
theorem text_len (n : Int) (h : n.natAbs < 18446744073709551616) : 1 ≤ (textL n).length := by
  unfold textL
  have := dec_length n.natAbs
  split <;> simp <;> omega
end WM

/- Plain lists of numbers: sums and the like. -/
namespace LM

def tot : List Int → Int
  | [] => 0
  | x :: l => x + tot l

theorem tot_append (l m : List Int) : tot (l ++ m) = tot l + tot m := by
  induction l with
  | nil => simp [tot]
  | cons x l ih => simp only [List.cons_append, tot, ih]; omega

theorem tot_reverse (l : List Int) : tot l.reverse = tot l := by
  induction l with
  | nil => rfl
  | cons x l ih => rw [List.reverse_cons, tot_append, ih]; simp only [tot]; omega

theorem getD_at (l : List Int) (k : Nat) (h : k < l.length) : l.getD k 0 = l[k] := by simp [List.getD, h]

theorem take_snoc (l : List Int) (k : Nat) (h : k < l.length) : l.take (k + 1) = l.take k ++ [l.getD k 0] := by
  rw [List.take_succ_eq_append_getElem h, getD_at l k h]

theorem tot_take_succ (l : List Int) (k : Nat) (h : k < l.length) : tot (l.take (k + 1)) = tot (l.take k) + l.getD k 0 := by
  rw [take_snoc l k h, tot_append]; simp [tot]

theorem getD_mem (l : List Int) (k : Nat) (h : k < l.length) : l.getD k 0 ∈ l := by
  rw [getD_at l k h]; exact List.getElem_mem h

end LM
