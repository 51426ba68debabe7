/- Put together: WordMath, WordMath2, WordMath3, Txt, WordsA, WordMath4, WordsB, WordsC. -/
import Derived.Below
import Derived.Test.YtiohainnpjikpaaDoorBun1
import Derived.Laws.IdiomStrings
import Derived.Laws.Concat
/- Texts as lists of bytes: names, digits, numbers and how they are written. -/
namespace WM

def dig (c : UInt8) : Bool := decide (48 ≤ c.toNat) && decide (c.toNat ≤ 57)
def letter (c : UInt8) : Bool := decide (97 ≤ c.toNat) && decide (c.toNat ≤ 122)
def most : Int := 1152921504606846976
/-- is it a name -/
def name (l : List UInt8) : Bool := l.all (fun c => letter c || dig c) && letter (l.headD 0) && decide (l.length ≤ 12)
/-- digits alone, no nought ahead -/
def digits (l : List UInt8) : Bool := l.all dig && (l.length == 1 || (decide (1 < l.length) && l.headD 0 != 48))
def dval (c : UInt8) : Int := (c.toNat : Int) - 48
/-- the number that digits write -/
def val (l : List UInt8) : Int := l.foldl (fun n c => 10 * n + dval c) 0
/-- the same, but that it stops above the greatest -/
def sval (l : List UInt8) : Int := l.foldl (fun n c => if 115292150460684697 < n then most + 1 else 10 * n + dval c) 0
def cut (l : List UInt8) : List UInt8 := if l.headD 0 == 45 then l.tail else l
def below (l : List UInt8) : Bool := l.headD 0 == 45
def signE (v : Int) (b : Bool) : Int := if b = true ∧ v = 0 then 5 else if most < v then 3 else 0
def signN (v : Int) (b : Bool) : Int := if b = true ∧ v = 0 then 0 else if most < v then 0 else if b = true then -v else v
def intE (l : List UInt8) : Int := if digits (cut l) = true then signE (val (cut l)) (below l) else 5
def intN (l : List UInt8) : Int := if digits (cut l) = true then signN (val (cut l)) (below l) else 0
/-- the digits of a number -/
def dec (n : Nat) : List UInt8 := if h : n < 10 then [UInt8.ofNat (48 + n)] else dec (n / 10) ++ [UInt8.ofNat (48 + n % 10)]
termination_by n
decreasing_by omega

theorem take_snoc (l : List UInt8) (k : Nat) (h : k < l.length) : l.take (k + 1) = l.take k ++ [l[k]] := List.take_succ_eq_append_getElem h
theorem all_snoc (p : UInt8 → Bool) (l : List UInt8) (c : UInt8) : (l ++ [c]).all p = (l.all p && p c) := by simp
theorem all_take {p : UInt8 → Bool} {l : List UInt8} (h : l.all p = true) (k : Nat) : (l.take k).all p = true := by
  rw [List.all_eq_true] at *
  exact fun x hx => h x (List.mem_of_mem_take hx)
theorem all_get {p : UInt8 → Bool} {l : List UInt8} (h : l.all p = true) (k : Nat) (hk : k < l.length) : p l[k] = true := List.all_eq_true.1 h _ (List.getElem_mem hk)
theorem not_all {p : UInt8 → Bool} {l : List UInt8} (k : Nat) (hk : k < l.length) (h : p l[k] = false) : l.all p = false := by
  rw [Bool.eq_false_iff]
  intro a
  rw [all_get a k hk] at h
  exact absurd h (by simp)
theorem dig_true {c : UInt8} : dig c = true ↔ 48 ≤ (c.toNat : Int) ∧ (c.toNat : Int) ≤ 57 := by unfold dig; simp; omega
theorem dig_false {c : UInt8} : dig c = false ↔ (c.toNat : Int) < 48 ∨ 57 < (c.toNat : Int) := by rw [Bool.eq_false_iff, ne_eq, dig_true]; omega
theorem letter_true {c : UInt8} : letter c = true ↔ 97 ≤ (c.toNat : Int) ∧ (c.toNat : Int) ≤ 122 := by unfold letter; simp; omega
theorem letter_false {c : UInt8} : letter c = false ↔ (c.toNat : Int) < 97 ∨ 122 < (c.toNat : Int) := by rw [Bool.eq_false_iff, ne_eq, letter_true]; omega
theorem dval_range {c : UInt8} (h : dig c = true) : 0 ≤ dval c ∧ dval c ≤ 9 := by have := dig_true.1 h; unfold dval; omega

theorem val_snoc (l : List UInt8) (c : UInt8) : val (l ++ [c]) = 10 * val l + dval c := by simp [val]
theorem sval_snoc (l : List UInt8) (c : UInt8) : sval (l ++ [c]) = if 115292150460684697 < sval l then most + 1 else 10 * sval l + dval c := by unfold sval; rw [List.foldl_append]; rfl
theorem snoc_ind {P : List UInt8 → Prop} (h0 : P []) (h1 : ∀ l c, P l → P (l ++ [c])) (l : List UInt8) : P l := by
  have : ∀ n, ∀ l : List UInt8, l.length = n → P l := by
    intro n
    induction n with
    | zero => intro l h; rw [List.length_eq_zero_iff.1 h]; exact h0
    | succ n ih =>
      intro l h
      have hne : l ≠ [] := by intro e; rw [e] at h; simp at h
      rw [← List.dropLast_concat_getLast hne]
      exact h1 _ _ (ih _ (by simp [h]))
  exact this _ l rfl
theorem val_nonneg {l : List UInt8} (h : l.all dig = true) : 0 ≤ val l := by
  induction l using snoc_ind with
  | h0 => simp [val]
  | h1 l c ih =>
    rw [all_snoc, Bool.and_eq_true] at h
    have := ih h.1
    have := dval_range h.2
    rw [val_snoc]; omega
/-- below the greatest they are one -/
theorem sval_val {l : List UInt8} (h : l.all dig = true) : (0 ≤ sval l ∧ sval l ≤ 1152921504606846979) ∧ (val l ≤ most → sval l = val l) ∧ (most < val l → most < sval l) := by
  induction l using snoc_ind with
  | h0 => simp [val, sval, most]
  | h1 l c ih =>
    rw [all_snoc, Bool.and_eq_true] at h
    obtain ⟨⟨a0, a1⟩, a2, a3⟩ := ih h.1
    have hv := val_nonneg h.1
    have hd := dval_range h.2
    rw [val_snoc, sval_snoc]
    unfold most at *
    by_cases c1 : 115292150460684697 < sval l
    · rw [if_pos c1]
      by_cases c2 : val l ≤ 1152921504606846976
      · have := a2 c2; omega
      · omega
    · rw [if_neg c1]
      by_cases c2 : val l ≤ 1152921504606846976
      · have := a2 c2; omega
      · have := a3 (by omega); omega
theorem sign_sval {l : List UInt8} (h : l.all dig = true) (b : Bool) : signE (sval l) b = signE (val l) b ∧ signN (sval l) b = signN (val l) b := by
  obtain ⟨⟨a0, a1⟩, a2, a3⟩ := sval_val h
  by_cases c : val l ≤ most
  · rw [a2 c]; exact ⟨rfl, rfl⟩
  · have c' : most < val l := by omega
    have c2 := a3 c'
    have z1 : val l ≠ 0 := by unfold most at *; omega
    have z2 : sval l ≠ 0 := by unfold most at *; omega
    simp [signE, signN, c', c2, z1, z2]
theorem dec_length (n : Nat) : 1 ≤ (dec n).length := by
  unfold dec
  split <;> simp
theorem dec_small {n : Nat} (h : n < 10) : dec n = [UInt8.ofNat (48 + n)] := by rw [dec]; simp [h]
theorem dec_big {n : Nat} (h : ¬ n < 10) : dec n = dec (n / 10) ++ [UInt8.ofNat (48 + n % 10)] := by rw [dec]; simp [h]
theorem dval_of (d : Nat) (h : d < 10) : dval (UInt8.ofNat (48 + d)) = d := by
  unfold dval
  rw [UInt8.toNat_ofNat']
  omega
theorem dig_of (d : Nat) (h : d < 10) : dig (UInt8.ofNat (48 + d)) = true := by
  rw [dig_true, UInt8.toNat_ofNat']
  omega
theorem dec_dig (n : Nat) : (dec n).all dig = true := by
  induction n using dec.induct with
  | case1 n h => rw [dec_small h, List.all_cons, dig_of n h]; rfl
  | case2 n h ih => rw [dec_big h, all_snoc, ih, dig_of _ (by omega)]; rfl
theorem dec_val (n : Nat) : val (dec n) = n := by
  induction n using dec.induct with
  | case1 n h => rw [dec_small h]; show 10 * 0 + dval _ = _; rw [dval_of n h]; omega
  | case2 n h ih => rw [dec_big h, val_snoc, ih, dval_of _ (by omega)]; omega
theorem dec_head (n : Nat) (hn : 0 < n) : (dec n).headD 0 ≠ 48 := by
  induction n using dec.induct with
  | case1 n h =>
    rw [dec_small h]
    intro e
    have := congrArg UInt8.toNat e
    rw [List.headD_cons, UInt8.toNat_ofNat'] at this
    have h48 : (48 : UInt8).toNat = 48 := rfl
    omega
  | case2 n h ih =>
    have e := ih (by omega)
    rw [dec_big h]
    have hl := dec_length (n / 10)
    cases hd : dec (n / 10) with
    | nil => rw [hd] at hl; simp at hl
    | cons a t => rw [hd] at e; simpa using e
theorem dec_digits (n : Nat) : digits (dec n) = true := by
  unfold digits
  rw [dec_dig]
  by_cases h : n < 10
  · rw [dec_small h]; simp
  · have h1 := dec_head n (by omega)
    have hl : 1 < (dec n).length := by
      rw [dec_big h]; have := dec_length (n / 10); simp; omega
    rw [(bne_iff_ne).2 h1, decide_eq_true hl]
    simp
/-- there is one way to write a number -/
theorem dec_of {l : List UInt8} (h : digits l = true) : dec (val l).toNat = l := by
  have hd : l.all dig = true := by unfold digits at h; simp only [Bool.and_eq_true] at h; exact h.1
  have key : ∀ l : List UInt8, l.all dig = true → l ≠ [] → (l.length = 1 ∨ l.headD 0 ≠ 48) → dec (val l).toNat = l := by
    intro l
    induction l using snoc_ind with
    | h0 => exact fun _ h => absurd rfl h
    | h1 l c ih =>
    intro h _ h2
    rw [all_snoc, Bool.and_eq_true] at h
    have hc := dig_true.1 h.2
    have hr := dval_range h.2
    have hof : UInt8.ofNat (48 + (dval c).toNat) = c := by
      have : 48 + (dval c).toNat = c.toNat := by unfold dval at *; omega
      rw [this]; simp
    cases hl : l with
    | nil =>
      have e : val ([] ++ [c]) = dval c := by simp [val]
      rw [e, dec_small (by omega), hof]
      rfl
    | cons a t =>
      rw [← hl]
      have hne : l ≠ [] := by rw [hl]; simp
      have hh : l.headD 0 ≠ 48 := by
        rcases h2 with h2 | h2
        · rw [hl] at h2; simp at h2
        · rw [hl] at h2 ⊢; simpa using h2
      have e := ih h.1 hne (Or.inr hh)
      have hpos : 0 < val l := by
        rcases Int.lt_or_eq_of_le (val_nonneg h.1) with p | p
        · exact p
        · rw [← p] at e
          have : dec (0 : Int).toNat = [48] := by rw [dec_small (by decide)]; rfl
          rw [this] at e
          rw [← e] at hh
          exact absurd rfl hh
      rw [val_snoc]
      have e1 : (10 * val l + dval c).toNat / 10 = (val l).toNat := by omega
      have e2 : (10 * val l + dval c).toNat % 10 = (dval c).toNat := by omega
      rw [dec_big (by omega), e1, e2, e, hof]
  unfold digits at h
  simp only [Bool.and_eq_true, Bool.or_eq_true, beq_iff_eq, decide_eq_true_eq, bne_iff_ne, ne_eq] at h
  refine key l hd ?_ ?_
  · intro e; rw [e] at h; simp at h
  · rcases h.2 with h | h
    · exact Or.inl h
    · exact Or.inr h.2
end WM

/- Numbers and money as texts: read as they were written, written as they were read. -/
namespace WM

/-- how a number is written -/
def textL (n : Int) : List UInt8 := if n < 0 then 45 :: dec n.natAbs else dec n.natAbs
/-- money without its sign -/
def money (a : Nat) : List UInt8 := dec (a / 100) ++ [46, UInt8.ofNat (48 + a / 10 % 10), UInt8.ofNat (48 + a % 10)]
def moneyL (n : Int) : List UInt8 := if n < 0 then 45 :: money n.natAbs else money n.natAbs
/-- is it money, without a sign -/
def cok (m : List UInt8) : Bool := decide (4 ≤ m.length) && (m.getD (m.length - 3) 0 == 46) && digits (m.take (m.length - 3)) && (m.drop (m.length - 2)).all dig
def cval (m : List UInt8) : Int := val (m.take (m.length - 3) ++ m.drop (m.length - 2))
def centsE (l : List UInt8) : Int := if cok (cut l) = true then signE (cval (cut l)) (below l) else 5
def centsN (l : List UInt8) : Int := if cok (cut l) = true then signN (cval (cut l)) (below l) else 0

theorem digits_all {l : List UInt8} (h : digits l = true) : l.all dig = true := by unfold digits at h; simp only [Bool.and_eq_true] at h; exact h.1
theorem digits_ne {l : List UInt8} (h : digits l = true) : 1 ≤ l.length := by
  cases l with
  | nil => simp [digits] at h
  | cons a t => simp
theorem dig_ne45 {c : UInt8} (h : dig c = true) : c ≠ 45 := by
  rintro rfl
  exact absurd h (by decide)
theorem head_ne45 {l : List UInt8} (h : l.all dig = true) (hl : 1 ≤ l.length) (t : List UInt8) : ((l ++ t).headD 0 == 45) = false := by
  cases l with
  | nil => simp at hl
  | cons a l =>
    rw [List.all_cons, Bool.and_eq_true] at h
    simpa using dig_ne45 h.1
theorem cut_plain {l : List UInt8} (h : (l.headD 0 == 45) = false) : cut l = l ∧ below l = false := by
  unfold cut below
  rw [h]; simp
theorem cut_minus (l : List UInt8) : cut (45 :: l) = l ∧ below (45 :: l) = true := by simp [cut, below]
theorem of_below {l : List UInt8} (h : below l = true) : l = 45 :: cut l := by
  unfold below at h
  cases l with
  | nil => simp at h
  | cons a t =>
    have : a = 45 := by simpa using h
    rw [this, (cut_minus t).1]
theorem of_plain {l : List UInt8} (h : below l = false) : cut l = l := (cut_plain (by unfold below at h; exact h)).1
theorem cut_text (n : Int) : cut (textL n) = dec n.natAbs ∧ below (textL n) = decide (n < 0) := by
  unfold textL
  by_cases h : n < 0
  · rw [if_pos h, decide_eq_true h]; exact cut_minus _
  · rw [if_neg h, decide_eq_false h]
    have e := head_ne45 (dec_dig n.natAbs) (dec_length _) []
    rw [List.append_nil] at e
    exact cut_plain e
theorem money_head (a : Nat) : ((money a).headD 0 == 45) = false := head_ne45 (dec_dig _) (dec_length _) _
theorem cut_money (n : Int) : cut (moneyL n) = money n.natAbs ∧ below (moneyL n) = decide (n < 0) := by
  unfold moneyL
  by_cases h : n < 0
  · rw [if_pos h, decide_eq_true h]; exact cut_minus _
  · rw [if_neg h, decide_eq_false h]; exact cut_plain (money_head _)

theorem sign_abs (n : Int) : signE n.natAbs (decide (n < 0)) = (if n.natAbs ≤ most.natAbs then 0 else 3) ∧ (n.natAbs ≤ most.natAbs → signN n.natAbs (decide (n < 0)) = n) := by
  unfold signE signN most
  by_cases h : n < 0
  · have e : ¬ ((n.natAbs : Int) = 0) := by omega
    simp only [h, decide_true, e, and_false, if_false, if_true]
    constructor
    · split <;> split <;> omega
    · intro; split <;> omega
  · simp only [h, decide_false, Bool.false_eq_true, false_and, if_false]
    constructor
    · split <;> split <;> omega
    · intro; split <;> omega
theorem int_text (n : Int) : intE (textL n) = (if n.natAbs ≤ most.natAbs then 0 else 3) ∧ (n.natAbs ≤ most.natAbs → intN (textL n) = n) := by
  unfold intE intN
  obtain ⟨e1, e2⟩ := cut_text n
  rw [e1, e2, dec_val, dec_digits]
  simpa using sign_abs n

/-- what a number with its sign tells -/
theorem sign_ok {v : Int} {b : Bool} (h0 : 0 ≤ v) (h : signE v b = 0) : v ≤ most ∧ (b = true → 0 < v) ∧ signN v b = (if b = true then -v else v) := by
  unfold signE at h
  unfold signN
  split at h
  · omega
  · rename_i c1
    split at h
    · omega
    · rename_i c2
      refine ⟨by omega, fun hb => ?_, by rw [if_neg c1, if_neg c2]⟩
      rcases Int.lt_or_eq_of_le h0 with q | q
      · exact q
      · exact absurd ⟨hb, q.symm⟩ c1
theorem text_int {l : List UInt8} (h : intE l = 0) : textL (intN l) = l := by
  unfold intE at h
  unfold intN
  split at h
  · rename_i hd
    rw [if_pos hd]
    have hv := val_nonneg (digits_all hd)
    obtain ⟨_, h1, h2⟩ := sign_ok hv h
    rw [h2]
    have hw := dec_of hd
    cases hb : below l with
    | true =>
      have h1 := h1 hb
      rw [if_pos rfl]
      unfold textL
      rw [if_pos (by omega), show (-val (cut l)).natAbs = (val (cut l)).toNat by omega, hw]
      exact (of_below hb).symm
    | false =>
      rw [if_neg (by simp)]
      unfold textL
      rw [if_neg (by omega), show (val (cut l)).natAbs = (val (cut l)).toNat by omega, hw]
      exact of_plain hb
  · omega

theorem cok_parts (p : List UInt8) (c x y : UInt8) : cok (p ++ [c, x, y]) = (decide (1 ≤ p.length) && (c == 46) && digits p && (dig x && dig y)) ∧ cval (p ++ [c, x, y]) = 100 * val p + 10 * dval x + dval y := by
  have e1 : (p ++ [c, x, y]).length - 3 = p.length := by simp
  have e2 : (p ++ [c, x, y]).length - 2 = p.length + 1 := by simp
  have e3 : (p ++ [c, x, y]).take p.length = p := by simp
  have e4 : (p ++ [c, x, y]).drop (p.length + 1) = [x, y] := by
    rw [List.drop_append]; simp
  have e5 : (p ++ [c, x, y]).getD p.length 0 = c := by simp [List.getD]
  have e6 : decide (4 ≤ (p ++ [c, x, y]).length) = decide (1 ≤ p.length) := by
    rw [decide_eq_decide]; simp
  constructor
  · unfold cok
    rw [e6, e1, e2, e3, e4, e5]
    simp
  · unfold cval
    rw [e1, e2, e3, e4, show p ++ [x, y] = (p ++ [x]) ++ [y] by simp, val_snoc, val_snoc]
    omega
theorem split3 {m : List UInt8} (h : 4 ≤ m.length) : ∃ p c x y, m = p ++ [c, x, y] := by
  have h1 : (m.drop (m.length - 3)).length = 3 := by simp; omega
  obtain ⟨c, x, y, e⟩ : ∃ c x y, m.drop (m.length - 3) = [c, x, y] := by
    match hm : m.drop (m.length - 3), h1 with
    | [c, x, y], _ => exact ⟨c, x, y, rfl⟩
  exact ⟨m.take (m.length - 3), c, x, y, by rw [← e, List.take_append_drop]⟩
theorem cok_money (a : Nat) : cok (money a) = true ∧ cval (money a) = a := by
  unfold money
  obtain ⟨h1, h2⟩ := cok_parts (dec (a / 100)) 46 (UInt8.ofNat (48 + a / 10 % 10)) (UInt8.ofNat (48 + a % 10))
  rw [h1, h2, dec_digits, dec_val, dval_of _ (by omega), dval_of _ (by omega), dig_of _ (by omega), dig_of _ (by omega), decide_eq_true (dec_length _)]
  exact ⟨by simp, by omega⟩
theorem of_dval {c : UInt8} (h : dig c = true) : UInt8.ofNat (48 + (dval c).toNat) = c := by
  have := dig_true.1 h
  have : 48 + (dval c).toNat = c.toNat := by unfold dval; omega
  rw [this]; simp
theorem cok_len {m : List UInt8} (h : cok m = true) : 4 ≤ m.length := by
  unfold cok at h; simp only [Bool.and_eq_true, decide_eq_true_eq] at h; exact h.1.1.1
theorem money_of {m : List UInt8} (h : cok m = true) : 0 ≤ cval m ∧ money (cval m).toNat = m := by
  obtain ⟨p, c, x, y, rfl⟩ := split3 (cok_len h)
  obtain ⟨h1, h2⟩ := cok_parts p c x y
  rw [h1] at h
  simp only [Bool.and_eq_true, decide_eq_true_eq, beq_iff_eq] at h
  obtain ⟨⟨⟨hl, rfl⟩, hp⟩, hx, hy⟩ := h
  have v0 := val_nonneg (digits_all hp)
  have x0 := dval_range hx
  have y0 := dval_range hy
  rw [h2]
  refine ⟨by omega, ?_⟩
  unfold money
  rw [show (100 * val p + 10 * dval x + dval y).toNat / 100 = (val p).toNat by omega, show (100 * val p + 10 * dval x + dval y).toNat / 10 % 10 = (dval x).toNat by omega,
    show (100 * val p + 10 * dval x + dval y).toNat % 10 = (dval y).toNat by omega, dec_of hp, of_dval hx, of_dval hy]
theorem cents_money (n : Int) : centsE (moneyL n) = (if n.natAbs ≤ most.natAbs then 0 else 3) ∧ (n.natAbs ≤ most.natAbs → centsN (moneyL n) = n) := by
  unfold centsE centsN
  obtain ⟨e1, e2⟩ := cut_money n
  obtain ⟨e3, e4⟩ := cok_money n.natAbs
  rw [e1, e2, e3, e4]
  simpa using sign_abs n
theorem money_cents {l : List UInt8} (h : centsE l = 0) : moneyL (centsN l) = l := by
  unfold centsE at h
  unfold centsN
  split at h
  · rename_i hd
    rw [if_pos hd]
    obtain ⟨hv, hw⟩ := money_of hd
    obtain ⟨_, h1, h2⟩ := sign_ok hv h
    rw [h2]
    cases hb : below l with
    | true =>
      have h1 := h1 hb
      rw [if_pos rfl]
      unfold moneyL
      rw [if_pos (by omega), show (-cval (cut l)).natAbs = (cval (cut l)).toNat by omega, hw]
      exact (of_below hb).symm
    | false =>
      rw [if_neg (by simp)]
      unfold moneyL
      rw [if_neg (by omega), show (cval (cut l)).natAbs = (cval (cut l)).toNat by omega, hw]
      exact of_plain hb
  · omega
/-- no text is a number and money -/
theorem not_both (l : List UInt8) : intE l ≠ 0 ∨ centsE l ≠ 0 := by
  by_cases h1 : intE l = 0
  · right
    intro h2
    have hd : digits (cut l) = true := by
      unfold intE at h1; split at h1
      · assumption
      · omega
    have hc : cok (cut l) = true := by
      unfold centsE at h2; split at h2
      · assumption
      · omega
    obtain ⟨p, c, x, y, e⟩ := split3 (cok_len hc)
    rw [e] at hd hc
    rw [(cok_parts p c x y).1] at hc
    simp only [Bool.and_eq_true, decide_eq_true_eq, beq_iff_eq] at hc
    have := List.all_eq_true.1 (digits_all hd) c (by simp)
    rw [hc.1.1.2] at this
    exact absurd this (by decide)
  · exact Or.inl h1
end WM

/- Lines, fields and how they are put together. -/
namespace WM

/-- one byte more: what is complete, and what is under way -/
def step (b : UInt8) (s : List (List UInt8) × List UInt8) (c : UInt8) : List (List UInt8) × List UInt8 := if c = b then (s.1 ++ [s.2], []) else (s.1, s.2 ++ [c])
def run (b : UInt8) (l : List UInt8) : List (List UInt8) × List UInt8 := l.foldl (step b) ([], [])
/-- all pieces, the last one too -/
def pieces (b : UInt8) (l : List UInt8) : List (List UInt8) := (run b l).1 ++ [(run b l).2]
def plain (c : UInt8) : Bool := decide (32 ≤ c.toNat) && decide (c.toNat ≤ 126)
def full (ps : List (List UInt8)) : Bool := ps.all fun p => decide (p ≠ [])
def fieldsE (l : List UInt8) : Int := if 512 < l.length then 8 else if l = [] then 0 else if (l.all plain && full (pieces 32 l)) = true then 0 else 5
def fieldsN (l : List UInt8) : List (List UInt8) := if fieldsE l = 0 ∧ l ≠ [] then pieces 32 l else []
def linesE (l : List UInt8) : Int := if 65536 < l.length then 8 else 0
def linesN (l : List UInt8) : List (List UInt8) := if 65536 < l.length then [] else if (run 10 l).2 = [] then (run 10 l).1 else pieces 10 l
def joinL : List (List UInt8) → List UInt8
  | [] => []
  | [p] => p
  | p :: q :: r => p ++ 32 :: joinL (q :: r)

theorem run_nil (b : UInt8) : run b [] = ([], []) := rfl
theorem run_snoc (b : UInt8) (l : List UInt8) (c : UInt8) : run b (l ++ [c]) = step b (run b l) c := by simp [run]
theorem run_snoc_at (b : UInt8) (l : List UInt8) : run b (l ++ [b]) = ((run b l).1 ++ [(run b l).2], []) := by rw [run_snoc]; simp [step]
theorem run_snoc_in {b c : UInt8} (h : c ≠ b) (l : List UInt8) : run b (l ++ [c]) = ((run b l).1, (run b l).2 ++ [c]) := by rw [run_snoc]; simp [step, h]
theorem joinL_snoc (ps : List (List UInt8)) (q : List UInt8) (h : ps ≠ []) : joinL (ps ++ [q]) = joinL ps ++ 32 :: q := by
  induction ps with
  | nil => exact absurd rfl h
  | cons p ps ih =>
    cases ps with
    | nil => rfl
    | cons r rs =>
      have e := ih (by simp)
      show p ++ 32 :: joinL (r :: rs ++ [q]) = (p ++ 32 :: joinL (r :: rs)) ++ 32 :: q
      rw [e]; simp
theorem joinL_one (q : List UInt8) : joinL ([] ++ [q]) = q := rfl
theorem joinL_last (ps : List (List UInt8)) (q : List UInt8) (c : UInt8) : joinL (ps ++ [q ++ [c]]) = joinL (ps ++ [q]) ++ [c] := by
  by_cases h : ps = []
  · subst h; rfl
  · rw [joinL_snoc _ _ h, joinL_snoc _ _ h]; simp
/-- a line's fields put together are the line -/
theorem join_pieces (l : List UInt8) : joinL (pieces 32 l) = l := by
  induction l using snoc_ind with
  | h0 => rfl
  | h1 l c ih =>
    unfold pieces at *
    by_cases h : c = 32
    · subst h
      rw [run_snoc_at]
      show joinL ((run 32 l).1 ++ [(run 32 l).2] ++ [[]]) = _
      rw [joinL_snoc _ _ (by simp), ih]
    · rw [run_snoc_in h]
      show joinL ((run 32 l).1 ++ [(run 32 l).2 ++ [c]]) = _
      rw [joinL_last, ih]
theorem foldl_in {b : UInt8} (q : List UInt8) (h : b ∉ q) (s : List (List UInt8) × List UInt8) : q.foldl (step b) s = (s.1, s.2 ++ q) := by
  induction q generalizing s with
  | nil => simp
  | cons c q ih =>
    have h1 : c ≠ b := fun e => h (by rw [e]; simp)
    have h2 : b ∉ q := fun e => h (by simp [e])
    rw [List.foldl_cons, ih h2]
    simp [step, h1]
/-- texts without a blank, put together, are cut into these -/
theorem pieces_join (ps : List (List UInt8)) (hne : ps ≠ []) (h : ∀ p ∈ ps, (32 : UInt8) ∉ p) : pieces 32 (joinL ps) = ps := by
  have key : ∀ n, ∀ ps : List (List UInt8), ps.length = n → ps ≠ [] → (∀ p ∈ ps, (32 : UInt8) ∉ p) → pieces 32 (joinL ps) = ps := by
    intro n
    induction n with
    | zero => intro ps h0 hne _; exact absurd (List.length_eq_zero_iff.1 h0) hne
    | succ n ih =>
      intro ps h0 hne hp
      rw [← List.dropLast_concat_getLast hne] at hp ⊢
      have hl : ps.dropLast.length = n := by rw [List.length_dropLast]; omega
      generalize ps.dropLast = qs at *
      generalize ps.getLast hne = q at *
      have hq : (32 : UInt8) ∉ q := hp q (by simp)
      by_cases hz : qs = []
      · subst hz
        unfold pieces run
        rw [joinL_one, foldl_in q hq]
        simp
      · have e := ih qs hl hz (fun p hp' => hp p (by simp [hp']))
        rw [joinL_snoc _ _ hz]
        unfold pieces run at *
        rw [List.foldl_append, List.foldl_cons]
        generalize List.foldl (step 32) ([], []) (joinL qs) = st at *
        rw [foldl_in q hq]
        simp [step, e]
  exact key _ ps rfl hne h
theorem run_no {b : UInt8} {l : List UInt8} (h : b ∉ l) : run b l = ([], l) := by unfold run; rw [foldl_in l h]; simp
theorem no_of_run {b : UInt8} (l : List UInt8) : (run b l).1 = [] → b ∉ l ∧ (run b l).2 = l := by
  induction l using snoc_ind with
  | h0 => intro _; simp [run_nil]
  | h1 l c ih =>
    by_cases h : c = b
    · subst h; rw [run_snoc_at]; intro e; simp at e
    · rw [run_snoc_in h]
      intro e
      obtain ⟨h1, h2⟩ := ih e
      refine ⟨?_, by rw [h2]⟩
      simp only [List.mem_append, List.mem_singleton]
      rintro (a | a)
      · exact h1 a
      · exact h a.symm
/-- a line that is one field -/
theorem one_field {l : List UInt8} : (fieldsE l = 0 ∧ (fieldsN l).length = 1) ↔ (l ≠ [] ∧ l.length ≤ 512 ∧ l.all plain = true ∧ (32 : UInt8) ∉ l) := by
  constructor
  · rintro ⟨h1, h2⟩
    unfold fieldsN at h2
    by_cases hl : l = []
    · rw [if_neg (by simp [hl])] at h2; simp at h2
    · rw [if_pos ⟨h1, hl⟩] at h2
      unfold fieldsE at h1
      split at h1
      · omega
      · split at h1
        · rename_i ha hb
          rw [Bool.and_eq_true] at hb
          have : (run 32 l).1 = [] := by unfold pieces at h2; simpa using h2
          exact ⟨hl, by omega, hb.1, (no_of_run l this).1⟩
        · omega
  · rintro ⟨h1, h2, h3, h4⟩
    have hp : pieces 32 l = [l] := by unfold pieces; rw [run_no h4]; rfl
    have he : fieldsE l = 0 := by
      unfold fieldsE
      rw [if_neg (by omega), if_neg h1, hp, h3]
      simp [full, h1]
    refine ⟨he, ?_⟩
    unfold fieldsN
    rw [if_pos ⟨he, h1⟩, hp]
    rfl
theorem plain_true {c : UInt8} : plain c = true ↔ 32 ≤ (c.toNat : Int) ∧ (c.toNat : Int) ≤ 126 := by unfold plain; simp; omega
theorem plain_false {c : UInt8} : plain c = false ↔ (c.toNat : Int) < 32 ∨ 126 < (c.toNat : Int) := by rw [Bool.eq_false_iff, ne_eq, plain_true]; omega
/-- a name is one field -/
theorem name_field {l : List UInt8} (h : name l = true) : fieldsE l = 0 ∧ (fieldsN l).length = 1 := by
  unfold name at h
  simp only [Bool.and_eq_true, decide_eq_true_eq] at h
  obtain ⟨⟨ha, hb⟩, hc⟩ := h
  have hr : ∀ c ∈ l, (97 ≤ (c.toNat : Int) ∧ (c.toNat : Int) ≤ 122) ∨ (48 ≤ (c.toNat : Int) ∧ (c.toNat : Int) ≤ 57) := by
    intro c hc
    have := List.all_eq_true.1 ha c hc
    simp only [Bool.or_eq_true] at this
    rcases this with h | h
    · exact Or.inl (letter_true.1 h)
    · exact Or.inr (dig_true.1 h)
  refine one_field.2 ⟨?_, by omega, ?_, ?_⟩
  · rintro rfl
    exact absurd hb (by decide)
  · rw [List.all_eq_true]
    intro c hc
    have := hr c hc
    rw [plain_true]; omega
  · intro h
    have := hr 32 h
    have e : (32 : UInt8).toNat = 32 := rfl
    omega
theorem all_join {p : UInt8 → Bool} (h32 : p 32 = true) (ps : List (List UInt8)) (h : ∀ q ∈ ps, q.all p = true) : (joinL ps).all p = true := by
  induction ps with
  | nil => rfl
  | cons q ps ih =>
    have hq := h q (by simp)
    cases ps with
    | nil => exact hq
    | cons r rs =>
      have e := ih (fun x hx => h x (by simp [hx]))
      show (q ++ 32 :: joinL (r :: rs)).all p = true
      rw [List.all_append, List.all_cons, hq, h32, e]; rfl
/-- fields put together are cut into these again -/
theorem fields_join {ps : List (List UInt8)} (h : ∀ q ∈ ps, fieldsE q = 0 ∧ (fieldsN q).length = 1) (hl : (joinL ps).length ≤ 512) : fieldsE (joinL ps) = 0 ∧ fieldsN (joinL ps) = ps := by
  by_cases hz : ps = []
  · subst hz; exact ⟨rfl, rfl⟩
  · have h' := fun q hq => one_field.1 (h q hq)
    have hp := pieces_join ps hz (fun q hq => (h' q hq).2.2.2)
    have hn : joinL ps ≠ [] := by
      intro e
      rw [e] at hp
      have : ps = [[]] := by rw [← hp]; rfl
      exact (h' [] (by rw [this]; simp)).1 rfl
    have ha := all_join (p := plain) (by decide) ps (fun q hq => (h' q hq).2.2.1)
    have hf : full ps = true := by
      unfold full
      rw [List.all_eq_true]
      intro q hq
      simpa using (h' q hq).1
    have he : fieldsE (joinL ps) = 0 := by
      unfold fieldsE
      rw [if_neg (by omega), if_neg hn, hp, ha, hf]; rfl
    refine ⟨he, ?_⟩
    unfold fieldsN
    rw [if_pos ⟨he, hn⟩, hp]
theorem join_fields {l : List UInt8} (h : fieldsE l = 0) : joinL (fieldsN l) = l := by
  unfold fieldsN
  by_cases hl : l = []
  · rw [if_neg (by simp [hl]), hl]; rfl
  · rw [if_pos ⟨h, hl⟩, join_pieces]
/-- what a loop has at place k: what is under way is the text from its last cut on -/
theorem run_take (b : UInt8) (l : List UInt8) (k : Nat) : ∃ f, f ≤ min k l.length ∧ (run b (l.take k)).2 = (l.take k).drop f := by
  induction k with
  | zero => exact ⟨0, by omega, by simp [run_nil]⟩
  | succ k ih =>
    obtain ⟨f, hf, e⟩ := ih
    by_cases hk : k < l.length
    · rw [take_snoc l k hk]
      by_cases hc : l[k] = b
      · refine ⟨k + 1, by omega, ?_⟩
        rw [hc, run_snoc_at]
        simp; omega
      · refine ⟨f, by omega, ?_⟩
        rw [run_snoc_in hc, e, List.drop_append_of_le_length (by simp; omega)]
    · refine ⟨f, by omega, ?_⟩
      rw [List.take_of_length_le (by omega)] at *
      exact e
end WM

/- Strings and their bytes. -/
namespace Go.Proofs.YtiohainnpjikpaaDoor
open Go.RowKit

/-- a string's bytes -/
def L (s : ByteArray) : List UInt8 := s.data.toList
/-- the string of some bytes -/
def S (l : List UInt8) : ByteArray := ⟨l.toArray⟩
theorem L_S (l : List UInt8) : L (S l) = l := by simp [L, S]
theorem S_L (s : ByteArray) : S (L s) = s := by
  obtain ⟨d⟩ := s
  show ByteArray.mk d.toList.toArray = _
  rw [Array.toArray_toList]
theorem L_len (s : ByteArray) : (L s).length = s.size := Array.length_toList
theorem S_size (l : List UInt8) : (S l).size = l.length := List.size_toArray
theorem L_toList (s : ByteArray) : s.toList = L s := ByteArray.toList_eq s
theorem L_get (s : ByteArray) (k : Nat) (h : k < s.size) : (L s)[k]'(by rw [L_len]; exact h) = s[k] := by simp [L, ByteArray.getElem_eq_getElem_data]
theorem L_take_succ (s : ByteArray) (k : Nat) (h : k < s.size) : (L s).take (k + 1) = (L s).take k ++ [s[k]] := by
  rw [WM.take_snoc (L s) k (by rw [L_len]; exact h), L_get s k h]
theorem L_take_all (s : ByteArray) : (L s).take s.size = L s := List.take_of_length_le (by rw [L_len]; exact Nat.le_refl _)
theorem L_extract (s : ByteArray) (a b : Nat) : L (s.extract a b) = ((L s).take b).drop a := by
  simp [L, ByteArray.data_extract, List.drop_take]
theorem L_append (a b : ByteArray) : L (a ++ b) = L a ++ L b := by simp [L, ByteArray.data_append]
theorem L_inj {a b : ByteArray} (h : L a = L b) : a = b := by rw [← S_L a, ← S_L b, h]
theorem L_head (s : ByteArray) (h : 0 < s.size) : (L s).headD 0 = s[0] := by
  rw [← L_get s 0 h]
  have hl : 0 < (L s).length := by rw [L_len]; exact h
  rw [List.headD_eq_head?_getD, List.head?_eq_getElem?, List.getElem?_eq_getElem hl]
  rfl
theorem L_nil {s : ByteArray} (h : s.size = 0) : L s = [] := List.eq_nil_of_length_eq_zero (by rw [L_len]; exact h)
theorem isEmpty_false {s : ByteArray} (h : 0 < s.size) : s.toList.isEmpty = false := by
  rw [L_toList, List.isEmpty_eq_false_iff]
  intro e
  have := L_len s
  rw [e] at this; simp at this; omega
theorem isEmpty_true {s : ByteArray} (h : s.size = 0) : s.toList.isEmpty = true := by
  rw [L_toList, L_nil h]; rfl
theorem beq_t {a b : Int} (h : a = b) : (a == b) = true := by simpa using h
theorem beq_f {a b : Int} (h : ¬ a = b) : (a == b) = false := by simpa using h
end Go.Proofs.YtiohainnpjikpaaDoor

/- Contracts of the small functions of layer 3 that look at bytes and digits. -/
namespace Go.Proofs.YtiohainnpjikpaaDoor
open Go.RowKit

theorem isLetter_any (c : UInt8) (w : World) :
    Calls Tryd.prog 56 #[.int .u8 (c.toNat : Int)] w fun e w' => e = .returned (.bool (WM.letter c)) ∧ w = w' := by
  by_cases h1 : 97 ≤ (c.toNat : Int)
  · by_cases h2 : (c.toNat : Int) ≤ 122
    · rw [WM.letter_true.2 ⟨h1, h2⟩]
      go_enter Tryd.func56, Tryd.ntmps56
      go_wp2
      go_ret
      exact ⟨rfl, rfl⟩
    · rw [WM.letter_false.2 (by omega)]
      go_enter Tryd.func56, Tryd.ntmps56
      go_wp2
      go_ret
      exact ⟨rfl, rfl⟩
  · rw [WM.letter_false.2 (by omega)]
    go_enter Tryd.func56, Tryd.ntmps56
    go_wp2
    go_ret
    exact ⟨rfl, rfl⟩

theorem isDigit_any (c : UInt8) (w : World) :
    Calls Tryd.prog 57 #[.int .u8 (c.toNat : Int)] w fun e w' => e = .returned (.bool (WM.dig c)) ∧ w = w' := by
  by_cases h1 : 48 ≤ (c.toNat : Int)
  · by_cases h2 : (c.toNat : Int) ≤ 57
    · rw [WM.dig_true.2 ⟨h1, h2⟩]
      go_enter Tryd.func57, Tryd.ntmps57
      go_wp2
      go_ret
      exact ⟨rfl, rfl⟩
    · rw [WM.dig_false.2 (by omega)]
      go_enter Tryd.func57, Tryd.ntmps57
      go_wp2
      go_ret
      exact ⟨rfl, rfl⟩
  · rw [WM.dig_false.2 (by omega)]
    go_enter Tryd.func57, Tryd.ntmps57
    go_wp2
    go_ret
    exact ⟨rfl, rfl⟩

theorem all_step {p : UInt8 → Bool} {s : ByteArray} {k : Nat} (h : k < s.size) (ha : ((L s).take k).all p = true) (hk : p s[k] = true) : ((L s).take (k + 1)).all p = true := by
  rw [L_take_succ s k h, WM.all_snoc, ha, hk]; rfl
theorem all_not {p : UInt8 → Bool} {s : ByteArray} {k : Nat} (h : k < s.size) (hk : p s[k] = false) : (L s).all p = false :=
  WM.not_all k (by rw [L_len]; exact h) (by rw [L_get s k h]; exact hk)

theorem areDigits_any (s : ByteArray) (w : World) (hs : s.size ≤ 9223372036854775807) :
    Calls Tryd.prog 103 #[.string s] w fun e w' => e = .returned (.bool ((L s).all WM.dig)) ∧ w = w' := by
  generalize hv : (L s).all WM.dig = v
  have HV := Lib.hid hv
  clear hv
  go_enter Tryd.func103, Tryd.ntmps103
  go_wp2
  go_loop [6] (fun i => ∃ k : Nat, k ≤ s.size ∧ i = .int .i64 k ∧ Hid (((L s).take k).all WM.dig = true)) (fun i => s.size - (intOf i).toNat)
  case atStart => exact ⟨0, by omega, rfl, Lib.hid rfl⟩
  case round =>
    obtain ⟨k, hk, rfl, HA⟩ := hrel
    by_cases hlt : k < s.size
    · cases hd : WM.dig s[k]
      · have HN := Lib.hid (all_not hlt hd)
        go_wp2_with (go_at_call 57; refine (isDigit_any _ _).mono ?_; rintro e w' ⟨rfl, rfl⟩)
        go_ret
        exact ⟨by rw [← HV.out, HN.out]; rfl, rfl⟩
      · have HN := Lib.hid (all_step hlt HA.out hd)
        go_wp2_with (go_at_call 57; refine (isDigit_any _ _).mono ?_; rintro e w' ⟨rfl, rfl⟩)
        go_round
        case rel => exact ⟨k + 1, by omega, by go_num, HN⟩
        case measure => simp [intOf]; omega
    · obtain rfl : k = s.size := by omega
      have HE := HA.out
      rw [L_take_all] at HE
      have HE := Lib.hid HE
      go_wp2
      go_ret
      exact ⟨by rw [← HV.out, HE.out]; rfl, rfl⟩
end Go.Proofs.YtiohainnpjikpaaDoor

/- What the program's own readers of digits reckon. -/
namespace WM

theorem digits_nil : digits [] = false := rfl
/-- one digit or more, no nought ahead -/
theorem digits_def {l : List UInt8} (h : 0 < l.length) : digits l = (!((l.headD 0 == 48) && decide (1 < l.length)) && l.all dig) := by
  unfold digits
  by_cases h1 : l.length = 1
  · have e1 : (l.length == 1) = true := by simpa using h1
    have e2 : decide (1 < l.length) = false := by simp; omega
    rw [e1, e2]; simp
  · have e1 : (l.length == 1) = false := by simpa using h1
    have e2 : decide (1 < l.length) = true := by simp; omega
    rw [e1, e2]
    cases hh : (l.headD 0 == 48) with
    | true => simp only [bne, hh]; simp
    | false => simp only [bne, hh]; simp
/-- the value, but for what is above the greatest -/
def mval (l : List UInt8) : Int := min (val l) (most + 1)
theorem val_take {l : List UInt8} (h : l.all dig = true) (k : Nat) (hk : k < l.length) : 10 * val (l.take k) ≤ val l := by
  have key : ∀ n, ∀ l : List UInt8, l.length = k + 1 + n → l.all dig = true → 10 * val (l.take k) ≤ val l := by
    intro n
    induction n with
    | zero =>
      intro l hl hd
      have e : l = l.take k ++ [l[k]] := by
        rw [← take_snoc l k (by omega), List.take_of_length_le (by omega)]
      have h1 := dval_range (all_get hd k (by omega))
      have h2 : val l = 10 * val (l.take k) + dval l[k] := by
        conv => lhs; rw [e]
        rw [val_snoc]
      omega
    | succ n ih =>
      intro l hl hd
      have e : l = l.take (k + 1 + n) ++ [l[k + 1 + n]] := by
        rw [← take_snoc l _ (by omega), List.take_of_length_le (by omega)]
      have h0 := ih (l.take (k + 1 + n)) (by rw [List.length_take]; omega) (all_take hd _)
      rw [List.take_take, show min k (k + 1 + n) = k by omega] at h0
      have h1 := dval_range (all_get hd (k + 1 + n) (by omega))
      have h2 : val l = 10 * val (l.take (k + 1 + n)) + dval l[k + 1 + n] := by
        conv => lhs; rw [e]
        rw [val_snoc]
      have h3 := val_nonneg (all_take hd (k + 1 + n))
      omega
  exact key (l.length - (k + 1)) l (by omega) h
theorem mval_stop {l : List UInt8} (h : l.all dig = true) (k : Nat) (hk : k < l.length) (hv : 115292150460684697 < mval (l.take k)) : mval l = 1152921504606846977 := by
  have := val_take h k hk
  unfold mval most at *
  omega
theorem mval_step {l : List UInt8} (h : l.all dig = true) {c : UInt8} (hc : dig c = true) (hv : ¬ 115292150460684697 < mval l) : mval (l ++ [c]) = min (10 * mval l + dval c) 1152921504606846977 ∧ 0 ≤ mval l := by
  have := val_nonneg h
  have := dval_range hc
  unfold mval most at *
  rw [val_snoc]
  omega
theorem mval_range {l : List UInt8} (h : l.all dig = true) : 0 ≤ mval l ∧ mval l ≤ 1152921504606846977 := by
  have := val_nonneg h
  unfold mval most at *
  omega
theorem sign_mval {l : List UInt8} (h : l.all dig = true) (b : Bool) : signE (mval l) b = signE (val l) b ∧ signN (mval l) b = signN (val l) b := by
  have := val_nonneg h
  by_cases c : val l ≤ most
  · have : mval l = val l := by unfold mval; omega
    rw [this]; exact ⟨rfl, rfl⟩
  · have c' : most < val l := by omega
    have c2 : most < mval l := by unfold mval; omega
    have z1 : val l ≠ 0 := by unfold most at *; omega
    have z2 : mval l ≠ 0 := by unfold most at *; omega
    simp [signE, signN, c', c2, z1, z2]
theorem sval_stop {l : List UInt8} (h : l.all dig = true) (k : Nat) (hk : k < l.length) (hv : 115292150460684697 < sval (l.take k)) : most < val l := by
  have h1 := val_take h k hk
  have h2 := sval_val (all_take h k)
  have h3 := val_nonneg (all_take h k)
  unfold most at *
  by_cases c : val (l.take k) ≤ 1152921504606846976
  · have := h2.2.1 c; omega
  · omega
theorem sval_over {l : List UInt8} (k : Nat) (hk : k < l.length) (hv : 115292150460684697 < sval (l.take k)) : sval l = 1152921504606846977 := by
  have key : ∀ n, k + 1 + n ≤ l.length → sval (l.take (k + 1 + n)) = 1152921504606846977 := by
    intro n
    induction n with
    | zero =>
      intro h
      rw [take_snoc l k hk, sval_snoc, if_pos hv]; rfl
    | succ n ih =>
      intro h
      have e := ih (by omega)
      rw [show k + 1 + (n + 1) = (k + 1 + n) + 1 by omega, take_snoc l _ (by omega), sval_snoc, e, if_pos (by omega)]; rfl
  have := key (l.length - (k + 1)) (by omega)
  rw [List.take_of_length_le (by omega)] at this
  exact this
/-- what the reference's reader answers -/
def rval (l : List UInt8) : Int := if most < val l then most + 1 else val l
theorem sign_cases (v : Int) (b : Bool) : signE v b = (if b = true ∧ v = 0 then 5 else if most < v then 3 else 0) := rfl
end WM

/- Contracts of layer 3's readers of numbers, the program's. -/
namespace Go.Proofs.YtiohainnpjikpaaDoor
open Go.RowKit
set_option linter.unusedVariables false

theorem isWhole_any (s : ByteArray) (w : World) (hs : s.size ≤ 9223372036854775807) :
    Calls Tryd.prog 87 #[.string s] w fun e w' => e = .returned (.bool (WM.digits (L s))) ∧ w = w' := by
  by_cases h0 : s.size = 0
  · rw [L_nil h0, WM.digits_nil]
    have he := isEmpty_true h0
    clear h0
    go_enter Tryd.func87, Tryd.ntmps87
    go_wp2
    go_ret
    exact ⟨rfl, rfl⟩
  · have hp : 0 < s.size := by omega
    have he := isEmpty_false hp
    have HD := WM.digits_def (l := L s) (by rw [L_len]; exact hp)
    rw [L_head s hp, L_len] at HD
    cases h48 : (s[0] == 48)
    · have HD := Lib.hid HD
      have e1 : ((s[0].toNat : Int) == 48) = false := by
        simp only [beq_eq_false_iff_ne, ne_eq] at h48 ⊢
        intro h
        exact h48 (UInt8.toNat_inj.1 (by have : (48 : UInt8).toNat = 48 := rfl; omega))
      have H48 := Lib.hid h48
      clear h48
      go_enter Tryd.func87, Tryd.ntmps87
      go_wp2_with (go_at_call 103; refine (areDigits_any _ _ hs).mono ?_; rintro e w' ⟨rfl, rfl⟩)
      go_ret
      exact ⟨by rw [HD.out, H48.out]; rfl, rfl⟩
    · have e1 : ((s[0].toNat : Int) == 48) = true := by
        simp only [beq_iff_eq] at h48 ⊢
        rw [h48]; rfl
      have HD := Lib.hid HD
      have H48 := Lib.hid h48
      clear h48
      by_cases h1 : 1 < s.size
      · have e2 : decide (1 < s.size) = true := by simpa using h1
        have HE := Lib.hid e2
        go_enter Tryd.func87, Tryd.ntmps87
        go_wp2_with (go_at_call 103; refine (areDigits_any _ _ hs).mono ?_; rintro e w' ⟨rfl, rfl⟩)
        go_ret
        exact ⟨by rw [HD.out, H48.out, HE.out]; rfl, rfl⟩
      · have e2 : decide (1 < s.size) = false := by simpa using h1
        have HE := Lib.hid e2
        go_enter Tryd.func87, Tryd.ntmps87
        go_wp2_with (go_at_call 103; refine (areDigits_any _ _ hs).mono ?_; rintro e w' ⟨rfl, rfl⟩)
        go_ret
        exact ⟨by rw [HD.out, H48.out, HE.out]; rfl, rfl⟩

/-- what follows the sign -/
theorem cut_parts (s : ByteArray) : ∃ t : ByteArray, L t = WM.cut (L s) ∧ t.size ≤ s.size ∧
    ((s.size = 0 ∧ t = s ∧ WM.below (L s) = false) ∨ (∃ h : 0 < s.size, ((s[0].toNat : Int) == 45) = false ∧ t = s ∧ WM.below (L s) = false) ∨
      (∃ h : 0 < s.size, ((s[0].toNat : Int) == 45) = true ∧ t = s.extract 1 s.size ∧ WM.below (L s) = true)) := by
  by_cases h0 : s.size = 0
  · exact ⟨s, by rw [L_nil h0]; rfl, Nat.le_refl _, .inl ⟨h0, rfl, by rw [L_nil h0]; rfl⟩⟩
  · have hp : 0 < s.size := by omega
    cases hb : WM.below (L s)
    · refine ⟨s, (WM.of_plain hb).symm, Nat.le_refl _, .inr (.inl ⟨hp, ?_, rfl, rfl⟩)⟩
      unfold WM.below at hb
      rw [L_head s hp] at hb
      simp only [beq_eq_false_iff_ne, ne_eq] at hb ⊢
      intro h
      exact hb (UInt8.toNat_inj.1 (by have : (45 : UInt8).toNat = 45 := rfl; omega))
    · refine ⟨s.extract 1 s.size, ?_, ?_, .inr (.inr ⟨hp, ?_, rfl, rfl⟩)⟩
      · rw [L_extract, L_take_all]
        have := WM.of_below hb
        conv => lhs; rw [this]
        rfl
      · rw [ByteArray.size_extract]; omega
      · unfold WM.below at hb
        rw [L_head s hp] at hb
        simp only [beq_iff_eq] at hb ⊢
        rw [hb]; rfl

theorem cutSign_any (s : ByteArray) (w : World) (hs : s.size ≤ 9223372036854775807) :
    Calls Tryd.prog 86 #[.string s] w fun e w' => ∃ t : ByteArray, e = .returned (.tuple #[.bool (WM.below (L s)), .string t]) ∧ L t = WM.cut (L s) ∧ t.size ≤ s.size ∧ ∃ n, w' = w.drewN n := by
  obtain ⟨t, h1, h2, h3⟩ := cut_parts s
  have H1 := Lib.hid h1
  clear h1
  rcases h3 with ⟨h0, rfl, hb⟩ | ⟨hp, c, rfl, hb⟩ | ⟨hp, c, rfl, hb⟩
  · rw [hb]; clear hb
    have he := isEmpty_true h0
    clear h0
    go_enter Tryd.func86, Tryd.ntmps86
    go_wp2
    go_ret2
    exact ⟨_, rfl, H1.out, h2, 0, rfl⟩
  · rw [hb]; clear hb
    have he := isEmpty_false hp
    go_enter Tryd.func86, Tryd.ntmps86
    go_wp2
    go_ret2
    exact ⟨_, rfl, H1.out, h2, 0, rfl⟩
  · rw [hb]; clear hb
    have he := isEmpty_false hp
    go_enter Tryd.func86, Tryd.ntmps86
    go_wp2
    go_quiet (fail)
    go_wp2
    go_ret2
    exact ⟨_, rfl, H1.out, h2, _, rfl⟩

theorem dval_nat {c : UInt8} (h : WM.dig c = true) : ((c.toNat : Int) - 48) = WM.dval c := rfl

set_option maxHeartbeats 1000000 in
theorem sizeOf_any (s : ByteArray) (w : World) (hs : s.size ≤ 9223372036854775807) (hd : (L s).all WM.dig = true) :
    Calls Tryd.prog 104 #[.string s] w fun e w' => e = .returned (.int .i64 (WM.mval (L s))) ∧ w = w' := by
  generalize hv : WM.mval (L s) = v
  have HV := Lib.hid hv
  have HD := Lib.hid hd
  clear hv hd
  go_enter Tryd.func104, Tryd.ntmps104
  go_wp2
  go_loop [2, 6] (fun n i => ∃ k : Nat, ∃ x : Int, k ≤ s.size ∧ i = .int .i64 k ∧ n = .int .i64 x ∧ Hid (WM.mval ((L s).take k) = x)) (fun _ i => s.size - (intOf i).toNat)
  case atStart => exact ⟨0, 0, by omega, rfl, rfl, Lib.hid rfl⟩
  case round =>
    obtain ⟨k, x, hk, rfl, rfl, HX⟩ := hrel
    by_cases hlt : k < s.size
    · by_cases hx : 115292150460684697 < x
      · have HN := Lib.hid (WM.mval_stop HD.out k (by rw [L_len]; exact hlt) (by rw [HX.out]; exact hx))
        go_wp2
        go_ret
        exact ⟨by rw [← HV.out, HN.out]; rfl, rfl⟩
      · have hc : WM.dig s[k] = true := by rw [← L_get s k hlt]; exact WM.all_get HD.out k (by rw [L_len]; exact hlt)
        have hst := WM.mval_step (WM.all_take HD.out k) hc (by rw [HX.out]; exact hx)
        have hdr := WM.dval_range hc
        obtain ⟨d1, d2⟩ := WM.dig_true.1 hc
        rw [← L_take_succ s k hlt, HX.out] at hst
        have x0 := hst.2
        have HS := Lib.hid hst.1
        clear hst hdr hc
        unfold WM.dval at HS
        go_wp2
        all_goals
          go_round
          case rel => exact ⟨k + 1, _, by omega, by go_num, rfl, Lib.hid (by first | (rw [HS.out]; omega) | rw [HS.out])⟩
          case measure => simp [intOf]; omega
    · obtain rfl : k = s.size := by omega
      have HE := HX.out
      rw [L_take_all] at HE
      have HE := Lib.hid HE
      go_wp2
      go_ret
      exact ⟨by rw [← HV.out, HE.out]; rfl, rfl⟩
end Go.Proofs.YtiohainnpjikpaaDoor

/- Contracts: what reads a number, the program's and the reference's. -/
namespace Go.Proofs.YtiohainnpjikpaaDoor
open Go.RowKit
set_option linter.unusedVariables false

theorem number_any (b : Bool) (s : ByteArray) (w : World) (hs : s.size ≤ 9223372036854775807) (hd : (L s).all WM.dig = true) :
    Calls Tryd.prog 88 #[.bool b, .string s] w fun e w' => e = .returned (.tuple #[.int .i64 (WM.signN (WM.val (L s)) b), .int .i64 (WM.signE (WM.val (L s)) b)]) ∧ w = w' := by
  have C := sizeOf_any s w hs hd
  obtain ⟨r0, r1⟩ := WM.mval_range hd
  rw [← (WM.sign_mval hd b).1, ← (WM.sign_mval hd b).2]
  generalize WM.mval (L s) = v at *
  have HC := Lib.hid C
  clear C
  generalize hn : WM.signN v b = rn
  generalize he : WM.signE v b = re
  have HN := Lib.hid hn
  have HE := Lib.hid he
  clear hn he hd
  by_cases c0 : v = 0
  · subst c0
    cases b
    · go_enter Tryd.func88, Tryd.ntmps88
      go_wp2_with fail
      refine HC.out.mono ?_
      rintro e w' ⟨rfl, rfl⟩
      go_wp2
      go_ret2
      exact ⟨by rw [← HN.out, ← HE.out]; rfl, rfl⟩
    · go_enter Tryd.func88, Tryd.ntmps88
      go_wp2_with fail
      refine HC.out.mono ?_
      rintro e w' ⟨rfl, rfl⟩
      go_wp2
      go_ret2
      exact ⟨by rw [← HN.out, ← HE.out]; rfl, rfl⟩
  · have d0 : (v == 0) = false := by simpa using c0
    by_cases c1 : v = 1152921504606846977
    · have d1 : (v == 1152921504606846977) = true := by simpa using c1
      have H1 : Hid (rn = 0 ∧ re = 3) := Lib.hid (by rw [← HN.out, ← HE.out, c1]; unfold WM.signN WM.signE WM.most; simp)
      clear c1
      go_enter Tryd.func88, Tryd.ntmps88
      go_wp2_with fail
      refine HC.out.mono ?_
      rintro e w' ⟨rfl, rfl⟩
      go_wp2
      go_ret2
      exact ⟨by rw [H1.out.1, H1.out.2]; rfl, rfl⟩
    · have d1 : (v == 1152921504606846977) = false := by simpa using c1
      have hm : ¬ WM.most < v := by unfold WM.most; omega
      cases b
      · have H1 : Hid (rn = v ∧ re = 0) := Lib.hid (by rw [← HN.out, ← HE.out]; unfold WM.signN WM.signE; simp [hm])
        clear hm
        go_enter Tryd.func88, Tryd.ntmps88
        go_wp2_with fail
        refine HC.out.mono ?_
        rintro e w' ⟨rfl, rfl⟩
        go_wp2
        go_ret2
        exact ⟨by rw [H1.out.1, H1.out.2]; rfl, rfl⟩
      · have H1 : Hid (rn = -v ∧ re = 0) := Lib.hid (by rw [← HN.out, ← HE.out]; unfold WM.signN WM.signE; simp [hm, c0])
        clear hm
        go_enter Tryd.func88, Tryd.ntmps88
        go_wp2_with fail
        refine HC.out.mono ?_
        rintro e w' ⟨rfl, rfl⟩
        go_wp2
        go_ret2
        exact ⟨by rw [H1.out.1, H1.out.2]; rfl, rfl⟩

theorem int_any (s : ByteArray) (w : World) (hs : s.size ≤ 9223372036854775807) :
    Calls Tryd.prog 59 #[.string s] w fun e w' => e = .returned (.tuple #[.int .i64 (WM.intN (L s)), .int .i64 (WM.intE (L s))]) ∧ ∃ n, w' = w.drewN n := by
  have HC := Lib.hid (cutSign_any s w hs)
  generalize hn : WM.intN (L s) = rn
  generalize he : WM.intE (L s) = re
  have HN := Lib.hid hn
  have HE := Lib.hid he
  clear hn he
  go_enter Tryd.func59, Tryd.ntmps59
  go_wp2_with fail
  refine HC.out.mono ?_
  rintro e w' ⟨t, rfl, h1, h2, m, rfl⟩
  have h3 : t.size ≤ 9223372036854775807 := by omega
  have H1 := Lib.hid h1
  clear h1
  cases hd : WM.digits (L t)
  · have HD := Lib.hid hd
    go_wp2_with fail
    refine (isWhole_any t _ h3).mono ?_
    rintro e w' ⟨rfl, rfl⟩
    go_wp2
    go_ret2
    exact ⟨by rw [← HN.out, ← HE.out]; unfold WM.intN WM.intE; rw [← H1.out, HD.out]; rfl, m, rfl⟩
  · have HD := Lib.hid hd
    go_wp2_with fail
    refine (isWhole_any t _ h3).mono ?_
    rintro e w' ⟨rfl, rfl⟩
    go_wp2_with fail
    refine (number_any _ t _ h3 (WM.digits_all HD.out)).mono ?_
    rintro e w' ⟨rfl, rfl⟩
    go_wp2
    go_ret2
    exact ⟨by rw [← HN.out, ← HE.out]; unfold WM.intN WM.intE; rw [← H1.out, HD.out]; rfl, m, rfl⟩

/-! the reference's -/
set_option maxHeartbeats 1000000 in
theorem rdigits_any (s : ByteArray) (w : World) (hs : s.size ≤ 9223372036854775807) :
    Calls Tryd.prog 62 #[.string s] w fun e w' => e = .returned (.bool (WM.digits (L s))) ∧ w = w' := by
  generalize hv : WM.digits (L s) = v
  have HV := Lib.hid hv
  clear hv
  go_enter Tryd.func62, Tryd.ntmps62
  go_wp2
  go_loop [3] (fun i => ∃ k : Nat, k ≤ s.size ∧ i = .int .i64 k ∧ Hid (((L s).take k).all WM.dig = true)) (fun i => s.size - (intOf i).toNat)
  case atStart => exact ⟨0, by omega, rfl, Lib.hid rfl⟩
  case round =>
    obtain ⟨k, hk, rfl, HA⟩ := hrel
    by_cases hlt : k < s.size
    · cases hd : WM.dig s[k]
      · have HN := all_not hlt hd
        have HN : Hid (v = false) := Lib.hid (by rw [← HV.out]; unfold WM.digits; rw [HN]; rfl)
        rcases WM.dig_false.1 hd with h | h
        · go_wp2
          go_ret
          exact ⟨by rw [HN.out]; rfl, rfl⟩
        · go_wp2
          go_ret
          exact ⟨by rw [HN.out]; rfl, rfl⟩
      · have HN := Lib.hid (all_step hlt HA.out hd)
        obtain ⟨d1, d2⟩ := WM.dig_true.1 hd
        go_wp2
        go_round
        case rel => exact ⟨k + 1, by omega, by go_num, HN⟩
        case measure => simp [intOf]; omega
    · obtain rfl : k = s.size := by omega
      have HE := HA.out
      rw [L_take_all] at HE
      have HE := Lib.hid HE
      by_cases h0 : s.size = 0
      · have HN : Hid (v = false) := Lib.hid (by rw [← HV.out, L_nil h0]; rfl)
        have e1 : ((s.size : Int) == 1) = false := by simp; omega
        have e2 : decide (1 < (s.size : Int)) = false := by simp; omega
        go_wp2
        go_ret
        exact ⟨by rw [HN.out]; rfl, rfl⟩
      · have hp : 0 < s.size := by omega
        have HD := WM.digits_def (l := L s) (by rw [L_len]; exact hp)
        rw [L_head s hp, L_len, HV.out, HE.out] at HD
        by_cases h1 : s.size = 1
        · have HN : Hid (v = true) := Lib.hid (by rw [HD, h1]; simp)
          have e1 : ((s.size : Int) == 1) = true := by simp; omega
          clear HD h1
          go_wp2
          go_ret
          exact ⟨by rw [HN.out]; rfl, rfl⟩
        · have e1 : ((s.size : Int) == 1) = false := by simp; omega
          have e2 : 1 < s.size := by omega
          have e3 : decide (1 < s.size) = true := by simpa using e2
          rw [e3] at HD
          clear e3
          have HN : Hid (v = ((s[0].toNat : Int) != 48)) := Lib.hid (by
            rw [HD]
            rw [Bool.eq_iff_iff]
            simp only [Bool.and_true, Bool.not_eq_true', beq_eq_false_iff_ne, ne_eq, bne_iff_ne]
            constructor
            · intro h h'
              exact h (UInt8.toNat_inj.1 (by have : (48 : UInt8).toNat = 48 := rfl; omega))
            · intro h h'
              exact h (by rw [h']; rfl))
          clear HD
          go_wp2
          all_goals
            go_ret
            exact ⟨by rw [HN.out]; first | rfl | simp_all, rfl⟩
end Go.Proofs.YtiohainnpjikpaaDoor
