/- Put together: ProductMath2, DateMath, DateMath2, DateMath3, DateMath4, DateMath5, SeriesMath2, SeriesMath5. -/
import Derived.Test.YtaegapcccboinaaBun2
import Derived.Below
import Derived.Test.YtaegapcccboinaaBun3
import Derived.Test.YtaegapcccboinaaBun7
import Derived.Lib.Strings
/- Layer 9's mathematics: a product's line. -/
namespace QM
def cash : List UInt8 := [99, 97, 115, 104]
def physical : List UInt8 := [112, 104, 121, 115, 105, 99, 97, 108]
def word (b : Bool) : List UInt8 := if b then physical else cash
def fieldsOf (p : Prod) : List (List UInt8) := [p.name.data.toList, WM.textL p.cur, WM.textL p.mult, WM.textL p.tick, WM.textL p.low, WM.textL p.high, word p.phys]
def printL (p : Prod) : List UInt8 := WM.joinL (fieldsOf p)
def fAt (f : List (List UInt8)) (k : Nat) : List UInt8 := f.getD k []
def prodOf (f : List (List UInt8)) : Prod := ⟨⟨(fAt f 0).toArray⟩, WM.intN (fAt f 1), WM.intN (fAt f 2), WM.intN (fAt f 3), WM.intN (fAt f 4), WM.intN (fAt f 5), decide (fAt f 6 = physical)⟩
/-- seven fields, five numbers, one of the two words -/
def form (f : List (List UInt8)) : Prop := f.length = 7 ∧ (fAt f 6 = cash ∨ fAt f 6 = physical) ∧ WM.intE (fAt f 1) = 0 ∧ WM.intE (fAt f 2) = 0 ∧ WM.intE (fAt f 3) = 0 ∧ WM.intE (fAt f 4) = 0 ∧ WM.intE (fAt f 5) = 0
open Classical in
noncomputable def parE (l : List UInt8) : Int := if WM.fieldsE l ≠ 0 then WM.fieldsE l else if form (WM.fieldsN l) then checkE (prodOf (WM.fieldsN l)) else 5
open Classical in
noncomputable def parN (l : List UInt8) : Prod := if parE l = 0 then prodOf (WM.fieldsN l) else zero
theorem par_bad {l : List UInt8} (h : WM.fieldsE l ≠ 0) : parE l = WM.fieldsE l ∧ parN l = zero := by
  have e : parE l = WM.fieldsE l := by unfold parE; rw [if_pos h]
  exact ⟨e, by unfold parN; rw [e, if_neg h]⟩
theorem par_form {l : List UInt8} (h : WM.fieldsE l = 0) (h2 : ¬ form (WM.fieldsN l)) : parE l = 5 ∧ parN l = zero := by
  have e : parE l = 5 := by unfold parE; rw [if_neg (by simp [h]), if_neg h2]
  exact ⟨e, by unfold parN; rw [e, if_neg (by decide)]⟩
theorem par_check {l : List UInt8} (h : WM.fieldsE l = 0) (h2 : form (WM.fieldsN l)) (h3 : checkE (prodOf (WM.fieldsN l)) ≠ 0) : parE l = checkE (prodOf (WM.fieldsN l)) ∧ parN l = zero := by
  have e : parE l = checkE (prodOf (WM.fieldsN l)) := by unfold parE; rw [if_neg (by simp [h]), if_pos h2]
  exact ⟨e, by unfold parN; rw [e, if_neg h3]⟩
theorem par_ok {l : List UInt8} (h : WM.fieldsE l = 0) (h2 : form (WM.fieldsN l)) (h3 : checkE (prodOf (WM.fieldsN l)) = 0) : parE l = 0 ∧ parN l = prodOf (WM.fieldsN l) := by
  have e : parE l = 0 := by unfold parE; rw [if_neg (by simp [h]), if_pos h2, h3]
  exact ⟨e, by unfold parN; rw [if_pos e]⟩
theorem par_zero {l : List UInt8} (h : parE l = 0) : WM.fieldsE l = 0 ∧ form (WM.fieldsN l) ∧ checkE (prodOf (WM.fieldsN l)) = 0 ∧ parN l = prodOf (WM.fieldsN l) := by
  by_cases h1 : WM.fieldsE l = 0
  · by_cases h2 : form (WM.fieldsN l)
    · have e : parE l = checkE (prodOf (WM.fieldsN l)) := by unfold parE; rw [if_neg (by simp [h1]), if_pos h2]
      exact ⟨h1, h2, by rw [← e]; exact h, by unfold parN; rw [if_pos h]⟩
    · rw [(par_form h1 h2).1] at h; cases h
  · rw [(par_bad h1).1] at h; exact absurd h h1

/-- a number's text is one field -/
theorem text_field (n : Int) (h : n.natAbs ≤ 4294967296) : WM.fieldsE (WM.textL n) = 0 ∧ (WM.fieldsN (WM.textL n)).length = 1 := by
  rw [WM.one_field]
  have hd := WM.dec_dig n.natAbs
  have hl := WM.dec_length n.natAbs
  have hlen : (WM.dec n.natAbs).length ≤ 20 := by
    have key : ∀ k m : Nat, m < 10 ^ (k + 1) → (WM.dec m).length ≤ k + 1 := by
      intro k
      induction k with
      | zero => intro m hm; rw [WM.dec_small (by simpa using hm)]; simp
      | succ k ih =>
        intro m hm
        by_cases h10 : m < 10
        · rw [WM.dec_small h10]; simp
        · rw [WM.dec_big h10, List.length_append]
          have := ih (m / 10) (by rw [Nat.div_lt_iff_lt_mul (by omega)]; rw [Nat.pow_succ] at hm; omega)
          simp; omega
    have := key 19 n.natAbs (by omega)
    exact this
  have dig_in : ∀ c ∈ WM.dec n.natAbs, 48 ≤ c.toNat ∧ c.toNat ≤ 57 := by
    intro c hc
    have := List.all_eq_true.1 hd c hc
    simpa [WM.dig] using this
  have hall : ∀ c ∈ WM.textL n, 45 ≤ c.toNat ∧ c.toNat ≤ 57 := by
    intro c hc
    unfold WM.textL at hc
    split at hc
    · rcases List.mem_cons.1 hc with rfl | hc
      · decide
      · have := dig_in c hc; omega
    · have := dig_in c hc; omega
  refine ⟨?_, ?_, ?_, ?_⟩
  · unfold WM.textL
    split
    · simp
    · intro e; rw [e] at hl; simp at hl
  · unfold WM.textL
    split
    · rw [List.length_cons]; omega
    · omega
  · rw [List.all_eq_true]
    intro c hc
    have := hall c hc
    rw [WM.plain_true]; omega
  · intro hc
    have := hall _ hc
    simp at this
theorem word_field (b : Bool) : WM.fieldsE (word b) = 0 ∧ (WM.fieldsN (word b)).length = 1 := by
  rw [WM.one_field]; cases b <;> decide
theorem text_len (n : Int) (h : n.natAbs ≤ 4294967296) : (WM.textL n).length ≤ 21 := by
  have key : ∀ k m : Nat, m < 10 ^ (k + 1) → (WM.dec m).length ≤ k + 1 := by
    intro k
    induction k with
    | zero => intro m hm; rw [WM.dec_small (by simpa using hm)]; simp
    | succ k ih =>
      intro m hm
      by_cases h10 : m < 10
      · rw [WM.dec_small h10]; simp
      · rw [WM.dec_big h10, List.length_append]
        have := ih (m / 10) (by rw [Nat.div_lt_iff_lt_mul (by omega)]; rw [Nat.pow_succ] at hm; omega)
        simp; omega
  have := key 19 n.natAbs (by omega)
  unfold WM.textL
  split
  · rw [List.length_cons]; omega
  · omega
/-- a product that may be is read as it was printed -/
theorem par_print {p : Prod} (h : checkE p = 0) : parE (printL p) = 0 ∧ parN (printL p) = p := by
  obtain ⟨hn, hc, hm, ht, hl, _, _⟩ := check_parts h
  have nl : p.name.data.toList.length ≤ 12 := by
    unfold nameOk WM.name at hn
    simp only [Bool.and_eq_true, decide_eq_true_eq] at hn
    exact hn.2
  have hf : ∀ q ∈ fieldsOf p, WM.fieldsE q = 0 ∧ (WM.fieldsN q).length = 1 := by
    intro q hq
    simp only [fieldsOf, List.mem_cons, List.not_mem_nil, or_false] at hq
    rcases hq with rfl | rfl | rfl | rfl | rfl | rfl | rfl
    · exact WM.name_field hn
    · exact text_field _ (by omega)
    · exact text_field _ (by omega)
    · exact text_field _ (by omega)
    · exact text_field _ (by omega)
    · exact text_field _ (by omega)
    · exact word_field _
  have hlen : (WM.joinL (fieldsOf p)).length ≤ 512 := by
    have l1 := text_len p.cur (by omega)
    have l2 := text_len p.mult (by omega)
    have l3 := text_len p.tick (by omega)
    have l4 := text_len p.low (by omega)
    have l5 := text_len p.high (by omega)
    have nl2 : p.name.size ≤ 12 := by simpa using nl
    have l6 : (word p.phys).length ≤ 8 := by cases p.phys <;> decide
    simp [fieldsOf, WM.joinL]
    omega
  obtain ⟨e1, e2⟩ := WM.fields_join hf hlen
  have hint : ∀ n : Int, n.natAbs ≤ 4294967296 → WM.intE (WM.textL n) = 0 ∧ WM.intN (WM.textL n) = n := by
    intro n hn
    obtain ⟨a, b⟩ := WM.int_text n
    have hm : n.natAbs ≤ WM.most.natAbs := by unfold WM.most; omega
    rw [if_pos hm] at a
    exact ⟨a, b hm⟩
  obtain ⟨a1, b1⟩ := hint p.cur (by omega)
  obtain ⟨a2, b2⟩ := hint p.mult (by omega)
  obtain ⟨a3, b3⟩ := hint p.tick (by omega)
  obtain ⟨a4, b4⟩ := hint p.low (by omega)
  obtain ⟨a5, b5⟩ := hint p.high (by omega)
  have hform : form (fieldsOf p) := by
    refine ⟨rfl, ?_, a1, a2, a3, a4, a5⟩
    show word p.phys = cash ∨ word p.phys = physical
    cases p.phys
    · exact .inl rfl
    · exact .inr rfl
  have hprod : prodOf (fieldsOf p) = p := by
    have e6 : decide (word p.phys = physical) = p.phys := by cases p.phys <;> decide
    have e0 : (⟨(p.name.data.toList).toArray⟩ : ByteArray) = p.name := by simp
    show (⟨⟨(p.name.data.toList).toArray⟩, WM.intN (WM.textL p.cur), WM.intN (WM.textL p.mult), WM.intN (WM.textL p.tick), WM.intN (WM.textL p.low), WM.intN (WM.textL p.high), decide (word p.phys = physical)⟩ : Prod) = p
    rw [e0, b1, b2, b3, b4, b5, e6]
  have := par_ok (l := printL p) e1 (by unfold printL; rw [e2]; exact hform) (by unfold printL; rw [e2, hprod]; exact h)
  refine ⟨this.1, ?_⟩
  rw [this.2]
  unfold printL
  rw [e2, hprod]
/-- what is read is printed as the line -/
theorem print_par {l : List UInt8} (h : parE l = 0) : printL (parN l) = l ∧ checkE (parN l) = 0 := by
  obtain ⟨h1, ⟨h7, hw, i1, i2, i3, i4, i5⟩, h3, e⟩ := par_zero h
  rw [e]
  refine ⟨?_, h3⟩
  have hj := WM.join_fields h1
  generalize WM.fieldsN l = f at *
  have hf : fieldsOf (prodOf f) = f := by
    have hw2 : word (decide (fAt f 6 = physical)) = fAt f 6 := by
      by_cases g : fAt f 6 = physical
      · rw [decide_eq_true g, g]; rfl
      · rw [decide_eq_false g]
        rcases hw with hw | hw
        · rw [hw]; rfl
        · exact absurd hw g
    show [(⟨(fAt f 0).toArray⟩ : ByteArray).data.toList, WM.textL (WM.intN (fAt f 1)), WM.textL (WM.intN (fAt f 2)), WM.textL (WM.intN (fAt f 3)), WM.textL (WM.intN (fAt f 4)), WM.textL (WM.intN (fAt f 5)), word (decide (fAt f 6 = physical))] = f
    rw [WM.text_int i1, WM.text_int i2, WM.text_int i3, WM.text_int i4, WM.text_int i5, hw2]
    match f, h7 with
    | [a, b, c, d, e, g, k], _ => rfl
  unfold printL
  rw [hf]
  exact hj
end QM

/- Days and dates: one date for each day. -/
namespace DM
set_option linter.unusedVariables false

def leap (y : Int) : Bool := (decide (y.tmod 4 = 0) && decide (y.tmod 100 ≠ 0)) || decide (y.tmod 400 = 0)
def dim (y m : Int) : Int :=
  if m = 1 ∨ m = 3 ∨ m = 5 ∨ m = 7 ∨ m = 8 ∨ m = 10 ∨ m = 12 then 31
  else if m = 4 ∨ m = 6 ∨ m = 9 ∨ m = 11 then 30
  else if m = 2 then (if leap y = true then 29 else 28) else 0
def ylen (y : Int) : Int := if leap y = true then 366 else 365
/-- the days ahead of year 2000 + k -/
def before : Nat → Int
  | 0 => 0
  | k + 1 => before k + ylen (2000 + k)
/-- the days of the first j months -/
def cum (y : Int) : Nat → Int
  | 0 => 0
  | j + 1 => cum y j + dim y (j + 1)
def dayOf (y m d : Int) : Int := before (y - 2000).toNat + cum y (m - 1).toNat + d - 1
def okDate (y m d : Int) : Prop := 2000 ≤ y ∧ y ≤ 2199 ∧ 1 ≤ m ∧ m ≤ 12 ∧ 1 ≤ d ∧ d ≤ dim y m
def isDate (day y m d : Int) : Prop := okDate y m d ∧ dayOf y m d = day
instance (y m d : Int) : Decidable (okDate y m d) := by unfold okDate; infer_instance
def ofE (y m d : Int) : Int := if okDate y m d then 0 else 15
def ofN (y m d : Int) : Int := if okDate y m d then dayOf y m d else 0
def weekday (day : Int) : Int := if 0 ≤ day ∧ day ≤ 73048 then (day + 5) % 7 + 1 else 0

theorem dim_range (y m : Int) : 0 ≤ dim y m ∧ dim y m ≤ 31 := by unfold dim; split <;> (try split) <;> (try split) <;> (try split) <;> omega
theorem dim_real {y m : Int} (h : 1 ≤ m ∧ m ≤ 12) : 28 ≤ dim y m := by
  unfold dim
  split
  · omega
  · split
    · omega
    · split
      · split <;> omega
      · omega
theorem dim_out {y m : Int} (h : m < 1 ∨ 12 < m) : dim y m = 0 := by
  unfold dim
  rw [if_neg (by omega), if_neg (by omega), if_neg (by omega)]
theorem month_of {y m d : Int} (h1 : 1 ≤ d) (h2 : d ≤ dim y m) : 1 ≤ m ∧ m ≤ 12 := by
  by_cases h : 1 ≤ m ∧ m ≤ 12
  · exact h
  · rw [dim_out (by omega)] at h2; omega
theorem ylen_range (y : Int) : 365 ≤ ylen y ∧ ylen y ≤ 366 := by unfold ylen; split <;> omega
theorem cum_year (y : Int) : cum y 12 = ylen y := by
  unfold ylen
  simp only [cum, dim]
  by_cases h : leap y = true
  · simp [h]
  · simp [h]
theorem before_mono {j k : Nat} (h : j ≤ k) : before j ≤ before k := by
  induction k with
  | zero => rw [Nat.le_zero.1 h]; exact Int.le_refl _
  | succ k ih =>
    rcases Nat.lt_or_ge k j with h1 | h1
    · rw [show j = k + 1 by omega]; exact Int.le_refl _
    · have := ih h1
      have := ylen_range (2000 + k)
      rw [show before (k + 1) = before k + ylen (2000 + k) from rfl]; omega
theorem cum_mono {y : Int} {j k : Nat} (h : j ≤ k) : cum y j ≤ cum y k := by
  induction k with
  | zero => rw [Nat.le_zero.1 h]; exact Int.le_refl _
  | succ k ih =>
    rcases Nat.lt_or_ge k j with h1 | h1
    · rw [show j = k + 1 by omega]; exact Int.le_refl _
    · have := ih h1
      have := dim_range y (k + 1)
      rw [show cum y (k + 1) = cum y k + dim y (k + 1) from rfl]; omega
set_option maxRecDepth 100000 in
theorem before_all : before 200 = 73049 := by decide
/-- where a date's day lies -/
theorem day_in {y m d : Int} (h : okDate y m d) : before (y - 2000).toNat + cum y (m - 1).toNat ≤ dayOf y m d ∧ dayOf y m d < before (y - 2000).toNat + cum y ((m - 1).toNat + 1) ∧
    before (y - 2000).toNat ≤ dayOf y m d ∧ dayOf y m d < before ((y - 2000).toNat + 1) ∧ 0 ≤ dayOf y m d ∧ dayOf y m d ≤ 73048 := by
  obtain ⟨h1, h2, h3, h4, h5, h6⟩ := h
  have e : (((m - 1).toNat : Nat) : Int) + 1 = m := by omega
  have e2 : (2000 : Int) + ((y - 2000).toNat : Nat) = y := by omega
  have c0 : 0 ≤ cum y (m - 1).toNat := cum_mono (y := y) (Nat.zero_le _)
  have c1 : cum y ((m - 1).toNat + 1) = cum y (m - 1).toNat + dim y m := by show cum y _ + dim y _ = _; rw [e]
  have c2 : cum y ((m - 1).toNat + 1) ≤ cum y 12 := cum_mono (by omega)
  rw [cum_year] at c2
  have b0 : 0 ≤ before (y - 2000).toNat := before_mono (Nat.zero_le _)
  have b1 : before ((y - 2000).toNat + 1) = before (y - 2000).toNat + ylen y := by show before _ + ylen _ = _; rw [e2]
  have b2 : before ((y - 2000).toNat + 1) ≤ before 200 := before_mono (by omega)
  rw [before_all] at b2
  unfold dayOf
  omega
theorem isDate_unique {day y m d y' m' d' : Int} (h : isDate day y m d) (h' : isDate day y' m' d') : y = y' ∧ m = m' ∧ d = d' := by
  obtain ⟨h1, rfl⟩ := h
  obtain ⟨h2, e⟩ := h'
  obtain ⟨a1, a2, a3, a4, _⟩ := day_in h1
  obtain ⟨b1, b2, b3, b4, _⟩ := day_in h2
  rw [e] at b1 b2 b3 b4
  have g1 := h1
  have g2 := h2
  obtain ⟨p1, p2, p3, p4, p5, p6⟩ := h1
  obtain ⟨q1, q2, q3, q4, q5, q6⟩ := h2
  have hy : y = y' := by
    rcases Int.lt_trichotomy y y' with h | h | h
    · have := before_mono (show (y - 2000).toNat + 1 ≤ (y' - 2000).toNat by omega); omega
    · exact h
    · have := before_mono (show (y' - 2000).toNat + 1 ≤ (y - 2000).toNat by omega); omega
  subst hy
  have hm : m = m' := by
    rcases Int.lt_trichotomy m m' with h | h | h
    · have := cum_mono (y := y) (show (m - 1).toNat + 1 ≤ (m' - 1).toNat by omega); omega
    · exact h
    · have := cum_mono (y := y) (show (m' - 1).toNat + 1 ≤ (m - 1).toNat by omega); omega
  subst hm
  refine ⟨rfl, rfl, ?_⟩
  unfold dayOf at e
  omega
/-- between two steps of a rising row there is a place -/
theorem place (f : Nat → Int) (x : Int) (n : Nat) (h0 : f 0 ≤ x) (h1 : x < f n) : ∃ k, k < n ∧ f k ≤ x ∧ x < f (k + 1) := by
  induction n with
  | zero => omega
  | succ n ih =>
    by_cases h : f n ≤ x
    · exact ⟨n, by omega, h, h1⟩
    · obtain ⟨k, hk, r⟩ := ih (by omega)
      exact ⟨k, by omega, r⟩
theorem isDate_exists {day : Int} (h0 : 0 ≤ day) (h1 : day ≤ 73048) : ∃ y m d, isDate day y m d := by
  obtain ⟨k, hk, k1, k2⟩ := place before day 200 h0 (by rw [before_all]; omega)
  have e : before (k + 1) = before k + ylen (2000 + k) := rfl
  obtain ⟨j, hj, j1, j2⟩ := place (cum (2000 + k)) (day - before k) 12 (by show (0 : Int) ≤ _; omega) (by rw [cum_year]; omega)
  have e2 : cum (2000 + (k : Int)) (j + 1) = cum (2000 + k) j + dim (2000 + k) (j + 1) := rfl
  refine ⟨2000 + k, j + 1, day - before k - cum (2000 + k) j + 1, ⟨by omega, by omega, by omega, by omega, by omega, by omega⟩, ?_⟩
  unfold dayOf
  rw [show ((2000 : Int) + k - 2000).toNat = k by omega, show ((j : Int) + 1 - 1).toNat = j by omega]
  omega
/-- the next day -/
theorem isDate_next {day y m d : Int} (h : isDate day y m d) (hl : day < 73048) :
    isDate (day + 1) (if d < dim y m then y else if m < 12 then y else y + 1) (if d < dim y m then m else if m < 12 then m + 1 else 1) (if d < dim y m then d + 1 else 1) := by
  obtain ⟨⟨p1, p2, p3, p4, p5, p6⟩, e⟩ := h
  by_cases h1 : d < dim y m
  · simp only [h1, if_true]
    exact ⟨⟨p1, p2, p3, p4, by omega, by omega⟩, by unfold dayOf at *; omega⟩
  · have hd : d = dim y m := by omega
    by_cases h2 : m < 12
    · simp only [h1, h2, if_false, if_true]
      have := dim_real (y := y) (m := m + 1) (by omega)
      refine ⟨⟨p1, p2, by omega, by omega, by omega, by omega⟩, ?_⟩
      have c : cum y (m + 1 - 1).toNat = cum y (m - 1).toNat + dim y m := by
        rw [show (m + 1 - 1).toNat = (m - 1).toNat + 1 by omega]
        show cum y _ + dim y _ = _
        rw [show (((m - 1).toNat : Nat) : Int) + 1 = m by omega]
      unfold dayOf at *
      omega
    · simp only [h1, h2, if_false]
      have hm : m = 12 := by omega
      subst hm
      have c : cum y 12 = cum y 11 + dim y 12 := rfl
      rw [cum_year] at c
      have b : before (y + 1 - 2000).toNat = before (y - 2000).toNat + ylen y := by
        rw [show (y + 1 - 2000).toNat = (y - 2000).toNat + 1 by omega]
        show before _ + ylen _ = _
        rw [show (2000 : Int) + ((y - 2000).toNat : Nat) = y by omega]
      have e' : dayOf y 12 d = before (y - 2000).toNat + cum y 11 + d - 1 := rfl
      have hy : y < 2199 := by
        rcases Int.lt_or_eq_of_le p2 with q | q
        · exact q
        · exfalso
          subst q
          have b3 : before ((2199 : Int) + 1 - 2000).toNat = 73049 := before_all
          omega
      have := dim_real (y := y + 1) (m := 1) (by omega)
      refine ⟨⟨by omega, by omega, by omega, by omega, by omega, by omega⟩, ?_⟩
      show before (y + 1 - 2000).toNat + 0 + 1 - 1 = day + 1
      omega
theorem weekday_next {day : Int} (h0 : 0 ≤ day) (h1 : day < 73048) : weekday (day + 1) = weekday day % 7 + 1 := by
  unfold weekday
  rw [if_pos (by omega), if_pos (by omega)]; omega

/-! months on -/
def monthsE (y m d n : Int) : Int := let k := 12 * y + m - 1 + n
  ofE (k / 12) (k % 12 + 1) (min d (dim (k / 12) (k % 12 + 1)))
def monthsN (y m d n : Int) : Int := let k := 12 * y + m - 1 + n
  ofN (k / 12) (k % 12 + 1) (min d (dim (k / 12) (k % 12 + 1)))
theorem months_back {y m d n : Int} (h : okDate y m d) (he : monthsE y m d n = 0) :
    ∃ y2 m2 d2, isDate (monthsN y m d n) y2 m2 d2 ∧ monthsE y2 m2 d2 (-n) = 0 ∧ monthsN y2 m2 d2 (-n) ≤ dayOf y m d ∧ dayOf y m d - monthsN y2 m2 d2 (-n) ≤ 3 := by
  obtain ⟨p1, p2, p3, p4, p5, p6⟩ := h
  unfold monthsE at he
  unfold monthsN
  simp only at he ⊢
  generalize hk : 12 * y + m - 1 + n = k at *
  have hok : okDate (k / 12) (k % 12 + 1) (min d (dim (k / 12) (k % 12 + 1))) := by
    unfold ofE at he; split at he
    · assumption
    · omega
  have r := dim_real (y := k / 12) (m := k % 12 + 1) (by omega)
  have r2 := (dim_range y m).2
  refine ⟨k / 12, k % 12 + 1, min d (dim (k / 12) (k % 12 + 1)), ⟨hok, by unfold ofN; rw [if_pos hok]⟩, ?_⟩
  have e : 12 * (k / 12) + (k % 12 + 1) - 1 + -n = 12 * y + m - 1 := by omega
  have e1 : (12 * y + m - 1) / 12 = y := by omega
  have e2 : (12 * y + m - 1) % 12 + 1 = m := by omega
  unfold monthsE
  simp only
  rw [e, e1, e2]
  generalize dim (k / 12) (k % 12 + 1) = q at *
  have e3 : min (min d q) (dim y m) = min d q := by omega
  rw [e3]
  have hok2 : okDate y m (min d q) := ⟨p1, p2, p3, p4, by omega, by omega⟩
  unfold ofE ofN
  rw [if_pos hok2, if_pos hok2]
  unfold dayOf
  refine ⟨rfl, by omega, by omega⟩
end DM

/- The n-th weekday of a month; a date's text. -/
namespace DM
set_option linter.unusedVariables false

/-! the n-th weekday -/
theorem dayOf_from (y m d : Int) : dayOf y m d = dayOf y m 1 + d - 1 := by unfold dayOf; omega
theorem weekday_in {day : Int} (h0 : 0 ≤ day) (h1 : day ≤ 73048) : weekday day = (day + 5) % 7 + 1 := by unfold weekday; rw [if_pos ⟨h0, h1⟩]
def nthD (y m wd n : Int) : Int := (wd - ((dayOf y m 1 + 5) % 7 + 1)) % 7 + 1 + 7 * (n - 1)
theorem nthD_range (y m wd n : Int) : 7 * n - 6 ≤ nthD y m wd n ∧ nthD y m wd n ≤ 7 * n := by unfold nthD; omega
theorem nthD_step (y m wd n : Int) : nthD y m wd n = nthD y m wd 1 + 7 * (n - 1) := by unfold nthD; omega
theorem weekday_nth {y m d wd : Int} (h : okDate y m d) (h1 : 1 ≤ wd) (h7 : wd ≤ 7) : weekday (dayOf y m d) = wd ↔ (d - nthD y m wd 1) % 7 = 0 := by
  obtain ⟨_, _, _, _, a, b⟩ := day_in h
  rw [weekday_in a b, dayOf_from]
  unfold nthD
  constructor <;> intro <;> omega
theorem nth_only {y m d wd n : Int} (h : okDate y m d) (h1 : 1 ≤ wd) (h7 : wd ≤ 7) (hd1 : 7 * n - 6 ≤ d) (hd2 : d ≤ 7 * n) : weekday (dayOf y m d) = wd ↔ d = nthD y m wd n := by
  rw [weekday_nth h h1 h7]
  have r := nthD_range y m wd 1
  have s := nthD_step y m wd n
  constructor <;> intro <;> omega
/-- how many more are to come, ahead of the month's day d -/
def nthLeft (y m wd n d : Int) : Int := n - (d + 6 - nthD y m wd 1) / 7
theorem nthLeft_start (y m wd n : Int) : nthLeft y m wd n 1 = n := by
  have r := nthD_range y m wd 1
  unfold nthLeft; omega
theorem nthLeft_hit {y m wd n d : Int} (h : (d - nthD y m wd 1) % 7 = 0) : nthLeft y m wd n (d + 1) = nthLeft y m wd n d - 1 := by unfold nthLeft; omega
theorem nthLeft_miss {y m wd n d : Int} (h : (d - nthD y m wd 1) % 7 ≠ 0) : nthLeft y m wd n (d + 1) = nthLeft y m wd n d := by unfold nthLeft; omega
theorem nthLeft_zero {y m wd n d : Int} (hd : 1 ≤ d) (hn : 1 ≤ n) (h : nthLeft y m wd n d ≠ 0) (h0 : nthLeft y m wd n (d + 1) = 0) : d = nthD y m wd n := by
  have r := nthD_range y m wd 1
  have s := nthD_step y m wd n
  unfold nthLeft at *; omega
theorem nthLeft_some {y m wd n d : Int} (h : d ≤ nthD y m wd n) : 1 ≤ nthLeft y m wd n d := by
  have s := nthD_step y m wd n
  unfold nthLeft; omega
def nthE (y m wd n : Int) : Int := if wd < 1 ∨ 7 < wd ∨ n < 1 ∨ 5 < n then 2 else if okDate y m (nthD y m wd n) then 0 else 15
def nthN (y m wd n : Int) : Int := if nthE y m wd n = 0 then dayOf y m (nthD y m wd n) else 0

/-! texts -/
def ch (n : Int) : UInt8 := UInt8.ofNat (48 + (n % 10).toNat)
theorem ch_toNat (n : Int) : ((ch n).toNat : Int) = 48 + n % 10 := by
  unfold ch
  have : 48 + (n % 10).toNat < 256 := by omega
  rw [UInt8.toNat_ofNat_of_lt' this]; omega
def dateL (y m d : Int) : List UInt8 := [ch (y / 1000), ch (y / 100), ch (y / 10), ch y, 45, ch (m / 10), ch m, 45, ch (d / 10), ch d]
def isD (c : UInt8) : Prop := 48 ≤ c.toNat ∧ c.toNat ≤ 57
instance (c : UInt8) : Decidable (isD c) := by unfold isD; infer_instance
def dv (c : UInt8) : Int := (c.toNat : Int) - 48
theorem ch_isD (n : Int) : isD (ch n) := by have := ch_toNat n; unfold isD; omega
theorem ch_dv (n : Int) : dv (ch n) = n % 10 := by have := ch_toNat n; unfold dv; omega
theorem ch_of {c : UInt8} {n : Int} (h : isD c) (e : n % 10 = dv c) : ch n = c := by
  apply UInt8.toNat.inj
  have := ch_toNat n
  unfold dv at e
  unfold isD at h
  omega
/-- a run of figures: its value; -1 if one is none -/
def dgo : Int → List UInt8 → Int
  | n, [] => n
  | n, c :: t => if isD c then dgo (10 * n + dv c) t else -1
theorem dgo_two {a b : UInt8} : dgo 0 [a, b] = if isD a ∧ isD b then 10 * dv a + dv b else -1 := by
  simp only [dgo]
  by_cases h1 : isD a <;> by_cases h2 : isD b <;> simp [h1, h2]
theorem dgo_four {a b c d : UInt8} : dgo 0 [a, b, c, d] = if isD a ∧ isD b ∧ isD c ∧ isD d then 1000 * dv a + 100 * dv b + 10 * dv c + dv d else -1 := by
  simp only [dgo]
  by_cases h1 : isD a <;> by_cases h2 : isD b <;> by_cases h3 : isD c <;> by_cases h4 : isD d <;> simp [h1, h2, h3, h4] <;> omega
theorem dv_range {c : UInt8} (h : isD c) : 0 ≤ dv c ∧ dv c ≤ 9 := by unfold isD at h; unfold dv; omega
/-- is a text one of a date by its form? -/
def form (s : List UInt8) : Prop := ∃ a b c d e f g h, s = [a, b, c, d, 45, e, f, 45, g, h] ∧ isD a ∧ isD b ∧ isD c ∧ isD d ∧ isD e ∧ isD f ∧ isD g ∧ isD h
def yearOf (s : List UInt8) : Int := dgo 0 (s.take 4)
def monthOf (s : List UInt8) : Int := dgo 0 ((s.drop 5).take 2)
def dayIn (s : List UInt8) : Int := dgo 0 (s.drop 8)
theorem dateL_form (y m d : Int) : form (dateL y m d) := ⟨_, _, _, _, _, _, _, _, rfl, ch_isD _, ch_isD _, ch_isD _, ch_isD _, ch_isD _, ch_isD _, ch_isD _, ch_isD _⟩
theorem dateL_read {y m d : Int} (hy : 0 ≤ y ∧ y ≤ 9999) (hm : 0 ≤ m ∧ m ≤ 99) (hd : 0 ≤ d ∧ d ≤ 99) : yearOf (dateL y m d) = y ∧ monthOf (dateL y m d) = m ∧ dayIn (dateL y m d) = d := by
  have e1 : yearOf (dateL y m d) = dgo 0 [ch (y / 1000), ch (y / 100), ch (y / 10), ch y] := rfl
  have e2 : monthOf (dateL y m d) = dgo 0 [ch (m / 10), ch m] := rfl
  have e3 : dayIn (dateL y m d) = dgo 0 [ch (d / 10), ch d] := rfl
  rw [e1, e2, e3, dgo_four, dgo_two, dgo_two, if_pos ⟨ch_isD _, ch_isD _, ch_isD _, ch_isD _⟩, if_pos ⟨ch_isD _, ch_isD _⟩, if_pos ⟨ch_isD _, ch_isD _⟩]
  simp only [ch_dv]
  omega
theorem form_read {s : List UInt8} (h : form s) : dateL (yearOf s) (monthOf s) (dayIn s) = s ∧ 0 ≤ yearOf s ∧ yearOf s ≤ 9999 ∧ 0 ≤ monthOf s ∧ monthOf s ≤ 99 ∧ 0 ≤ dayIn s ∧ dayIn s ≤ 99 := by
  obtain ⟨a, b, c, d, e, f, g, h, rfl, ha, hb, hc, hd, he, hf, hg, hh⟩ := h
  have e1 : yearOf [a, b, c, d, 45, e, f, 45, g, h] = dgo 0 [a, b, c, d] := rfl
  have e2 : monthOf [a, b, c, d, 45, e, f, 45, g, h] = dgo 0 [e, f] := rfl
  have e3 : dayIn [a, b, c, d, 45, e, f, 45, g, h] = dgo 0 [g, h] := rfl
  rw [e1, e2, e3, dgo_four, dgo_two, dgo_two, if_pos ⟨ha, hb, hc, hd⟩, if_pos ⟨he, hf⟩, if_pos ⟨hg, hh⟩]
  have r1 := dv_range ha; have r2 := dv_range hb; have r3 := dv_range hc; have r4 := dv_range hd
  have r5 := dv_range he; have r6 := dv_range hf; have r7 := dv_range hg; have r8 := dv_range hh
  refine ⟨?_, by omega, by omega, by omega, by omega, by omega, by omega⟩
  unfold dateL
  rw [ch_of ha (by omega), ch_of hb (by omega), ch_of hc (by omega), ch_of hd (by omega), ch_of he (by omega), ch_of hf (by omega), ch_of hg (by omega), ch_of hh (by omega)]
end DM

/- Dates' texts rise with the days. -/
namespace DM
set_option linter.unusedVariables false
open Go

theorem ls_same (c : UInt8) (x y : List UInt8) : Op.bytesLess (c :: x) (c :: y) = Op.bytesLess x y := by
  have h : ¬ c < c := by intro h; have := UInt8.lt_iff_toNat_lt.1 h; omega
  simp [Op.bytesLess, h]
theorem ls_lt {a b : Int} (h : a % 10 < b % 10) (x y : List UInt8) : Op.bytesLess (ch a :: x) (ch b :: y) = true := by
  have h1 := ch_toNat a
  have h2 := ch_toNat b
  have : ch a < ch b := UInt8.lt_iff_toNat_lt.2 (by omega)
  simp [Op.bytesLess, this]
theorem ch_eq {a b : Int} (h : a % 10 = b % 10) : ch a = ch b := ch_of (ch_isD b) (by rw [ch_dv, h])
theorem ls_eq {a b : Int} (h : a % 10 = b % 10) (x y : List UInt8) : Op.bytesLess (ch a :: x) (ch b :: y) = Op.bytesLess x y := by rw [ch_eq h, ls_same]
theorem ls_two {a b : Int} (h0 : 0 ≤ a) (h : a < b) (hb : b ≤ 99) (x y : List UInt8) : Op.bytesLess (ch (a / 10) :: ch a :: x) (ch (b / 10) :: ch b :: y) = true := by
  by_cases h1 : a / 10 < b / 10
  · exact ls_lt (by omega) _ _
  · rw [ls_eq (by omega)]; exact ls_lt (by omega) _ _
theorem ls_four {a b : Int} (h0 : 0 ≤ a) (h : a < b) (hb : b ≤ 9999) (x y : List UInt8) : Op.bytesLess (ch (a / 1000) :: ch (a / 100) :: ch (a / 10) :: ch a :: x) (ch (b / 1000) :: ch (b / 100) :: ch (b / 10) :: ch b :: y) = true := by
  by_cases h1 : a / 1000 < b / 1000
  · exact ls_lt (by omega) _ _
  · rw [ls_eq (by omega)]
    by_cases h2 : a / 100 < b / 100
    · exact ls_lt (by omega) _ _
    · rw [ls_eq (by omega)]
      by_cases h3 : a / 10 < b / 10
      · exact ls_lt (by omega) _ _
      · rw [ls_eq (by omega)]; exact ls_lt (by omega) _ _
theorem dateL_less {y m d y' m' d' : Int} (h : okDate y m d) (h' : okDate y' m' d') (hl : y < y' ∨ (y = y' ∧ (m < m' ∨ (m = m' ∧ d < d')))) : Op.bytesLess (dateL y m d) (dateL y' m' d') = true := by
  obtain ⟨p1, p2, p3, p4, p5, p6⟩ := h
  obtain ⟨q1, q2, q3, q4, q5, q6⟩ := h'
  have r := (dim_range y m).2
  have r' := (dim_range y' m').2
  unfold dateL
  rcases hl with hl | ⟨rfl, hl⟩
  · exact ls_four (by omega) hl (by omega) _ _
  · rw [ls_same, ls_same, ls_same, ls_same, ls_same]
    rcases hl with hl | ⟨rfl, hl⟩
    · exact ls_two (by omega) hl (by omega) _ _
    · rw [ls_same, ls_same, ls_same]
      exact ls_two (by omega) hl (by omega) _ _
theorem ls_asymm : ∀ (x y : List UInt8), Op.bytesLess x y = true → Op.bytesLess y x = false ∧ x ≠ y := by
  intro x
  induction x with
  | nil =>
    intro y h
    cases y with
    | nil => cases h
    | cons b y => exact ⟨rfl, by simp⟩
  | cons a x ih =>
    intro y h
    cases y with
    | nil => cases h
    | cons b y =>
      by_cases e : a = b
      · subst e
        rw [ls_same] at h ⊢
        obtain ⟨h1, h2⟩ := ih y h
        exact ⟨h1, by simpa using h2⟩
      · have hn : a.toNat ≠ b.toNat := fun h => e (UInt8.toNat.inj h)
        have hab : a < b := by
          simp [Op.bytesLess, e] at h
          exact h
        have := UInt8.lt_iff_toNat_lt.1 hab
        have hba : ¬ b < a := by intro h; have := UInt8.lt_iff_toNat_lt.1 h; omega
        exact ⟨by simp [Op.bytesLess, hba, Ne.symm e], by simp [e]⟩
/-- the next day's text is the greater one -/
theorem dateL_next {day y m d y' m' d' : Int} (h : isDate day y m d) (h' : isDate (day + 1) y' m' d') (hl : day < 73048) : Op.bytesLess (dateL y m d) (dateL y' m' d') = true := by
  obtain ⟨e1, e2, e3⟩ := isDate_unique (isDate_next h hl) h'
  refine dateL_less h.1 h'.1 ?_
  by_cases c1 : d < dim y m
  · simp only [c1, if_true] at e1 e2 e3
    right; refine ⟨e1, .inr ⟨e2, by omega⟩⟩
  · by_cases c2 : m < 12
    · simp only [c1, c2, if_false, if_true] at e1 e2 e3
      right; exact ⟨e1, .inl (by omega)⟩
    · simp only [c1, c2, if_false] at e1 e2 e3
      left; omega
end DM

/- Days ahead of a year, by counting leap years. -/
namespace DM
set_option linter.unusedVariables false

def lu (y : Int) : Int := y.tdiv 4 - y.tdiv 100 + y.tdiv 400
def ys (y : Int) : Int := (y - 2000) * 365 + lu (y - 1) - lu 1999
theorem tdiv_pos {y k : Int} (h : 0 ≤ y) : y.tdiv k = y / k := Int.tdiv_eq_ediv_of_nonneg h
theorem tmod_pos {y k : Int} (h : 0 ≤ y) : y.tmod k = y % k := Int.tmod_eq_emod_of_nonneg h
theorem lu_step {y : Int} (h : 1 ≤ y) : lu y = lu (y - 1) + (if leap y = true then 1 else 0) := by
  unfold lu leap
  rw [tdiv_pos (by omega), tdiv_pos (by omega), tdiv_pos (by omega), tdiv_pos (by omega), tdiv_pos (by omega), tdiv_pos (by omega), tmod_pos (by omega), tmod_pos (by omega), tmod_pos (by omega)]
  by_cases h4 : y % 4 = 0 <;> by_cases h1 : y % 100 = 0 <;> by_cases h400 : y % 400 = 0 <;> simp [h4, h1, h400] <;> omega
theorem lu_range {y : Int} (h0 : 0 ≤ y) (h1 : y ≤ 10000) : 0 ≤ lu y ∧ lu y ≤ 10000 := by
  unfold lu
  rw [tdiv_pos h0, tdiv_pos h0, tdiv_pos h0]; omega
theorem ys_before (k : Nat) : ys (2000 + k) = before k := by
  induction k with
  | zero => decide
  | succ k ih =>
    have s := lu_step (y := 2000 + k) (by omega)
    have e : before (k + 1) = before k + ylen (2000 + k) := rfl
    rw [e, ← ih]
    unfold ys ylen
    rw [show (2000 : Int) + ((k + 1 : Nat) : Int) - 1 = 2000 + k by omega, s]
    split <;> omega
theorem ys_at {y : Int} (h : 2000 ≤ y) : ys y = before (y - 2000).toNat := by
  rw [← ys_before, show (2000 : Int) + ((y - 2000).toNat : Nat) = y by omega]
theorem before_range {k : Nat} (h : k ≤ 200) : 0 ≤ before k ∧ before k ≤ 73049 := by
  have a := before_mono (Nat.zero_le k)
  have b := before_mono h
  rw [before_all] at b
  exact ⟨a, b⟩
theorem cum_range (y : Int) (j : Nat) (h : j ≤ 12) : 0 ≤ cum y j ∧ cum y j ≤ 366 := by
  have a := cum_mono (y := y) (Nat.zero_le j)
  have b := cum_mono (y := y) h
  rw [cum_year] at b
  have := (ylen_range y).2
  exact ⟨a, by omega⟩
theorem cum_succ (y : Int) (j : Nat) : cum y (j + 1) = cum y j + dim y (j + 1) := rfl
theorem before_succ (k : Nat) : before (k + 1) = before k + ylen (2000 + k) := rfl
theorem before_ge (k : Nat) : 365 * (k : Int) ≤ before k := by
  induction k with
  | zero => decide
  | succ k ih => have := (ylen_range (2000 + k)).1; rw [before_succ]; omega
theorem before_le (k : Nat) : before k ≤ 366 * (k : Int) := by
  induction k with
  | zero => decide
  | succ k ih => have := (ylen_range (2000 + k)).2; rw [before_succ]; omega
def isd (d : Int) : Bool := decide (0 ≤ d ∧ d ≤ 73048)
theorem isd_true {d : Int} (h0 : 0 ≤ d) (h1 : d ≤ 73048) : isd d = true := decide_eq_true ⟨h0, h1⟩
theorem isd_false {d : Int} (h : d < 0 ∨ 73048 < d) : isd d = false := decide_eq_false (by omega)
theorem isd_of {d : Int} (h : isd d = true) : 0 ≤ d ∧ d ≤ 73048 := of_decide_eq_true h
theorem isd_no {d : Int} (h : isd d = false) : d < 0 ∨ 73048 < d := by have := of_decide_eq_false h; omega
end DM
namespace DM
/-! how a day's year and month are found -/
theorem split_year {day y m d : Int} (h : isDate day y m d) (k : Nat) : before (k + 1) ≤ day ↔ k < (y - 2000).toNat := by
  obtain ⟨h1, rfl⟩ := h
  obtain ⟨_, _, a3, a4, _⟩ := day_in h1
  constructor
  · intro h
    rcases Nat.lt_or_ge k (y - 2000).toNat with g | g
    · exact g
    · have := before_mono (show (y - 2000).toNat + 1 ≤ k + 1 by omega); omega
  · intro h
    have := before_mono (show k + 1 ≤ (y - 2000).toNat by omega); omega
theorem split_month {day y m d : Int} (h : isDate day y m d) (j : Nat) : cum y (j + 1) ≤ day - before (y - 2000).toNat ↔ j < (m - 1).toNat := by
  obtain ⟨h1, rfl⟩ := h
  obtain ⟨a1, a2, _, _, _⟩ := day_in h1
  constructor
  · intro h
    rcases Nat.lt_or_ge j (m - 1).toNat with g | g
    · exact g
    · have := cum_mono (y := y) (show (m - 1).toNat + 1 ≤ j + 1 by omega); omega
  · intro h
    have := cum_mono (y := y) (show j + 1 ≤ (m - 1).toNat by omega); omega
theorem split_start {day y m d : Int} (h : isDate day y m d) : day / 366 ≤ (y - 2000).toNat := by
  obtain ⟨h1, rfl⟩ := h
  obtain ⟨_, _, _, a4, a5, _⟩ := day_in h1
  have := before_le ((y - 2000).toNat + 1)
  omega
theorem split_day {day y m d : Int} (h : isDate day y m d) : day - before (y - 2000).toNat - cum y (m - 1).toNat + 1 = d ∧ 0 ≤ day - before (y - 2000).toNat ∧ day - before (y - 2000).toNat ≤ 366 ∧ 0 ≤ day ∧ day ≤ 73048 := by
  obtain ⟨h1, e⟩ := h
  obtain ⟨_, _, a3, a4, a5, a6⟩ := day_in h1
  have b := before_succ (y - 2000).toNat
  have := (ylen_range (2000 + ((y - 2000).toNat : Nat))).2
  rw [e] at a3 a4 a5 a6
  unfold dayOf at e
  omega
theorem day_cases (day : Int) : (day < 0 ∨ 73048 < day) ∨ ∃ y m d, isDate day y m d := by
  by_cases h : day < 0 ∨ 73048 < day
  · exact .inl h
  · exact .inr (isDate_exists (by omega) (by omega))
end DM

/- A date's form, byte by byte. -/
namespace DM
set_option linter.unusedVariables false

def okAt (i : Nat) (c : UInt8) : Bool := if i = 4 ∨ i = 7 then c == 45 else decide (isD c)
def okUpTo (s : List UInt8) (k : Nat) : Prop := ∀ i, i < k → okAt i (s.getD i 0) = true
def formB (s : List UInt8) : Bool := decide (s.length = 10) && (List.range 10).all (fun i => okAt i (s.getD i 0))
theorem ten {α : Type} (s : List α) (h : s.length = 10) : ∃ a b c d e f g h i j, s = [a, b, c, d, e, f, g, h, i, j] := by
  match s, h with
  | [a, b, c, d, e, f, g, h, i, j], _ => exact ⟨a, b, c, d, e, f, g, h, i, j, rfl⟩
theorem formB_true {s : List UInt8} : formB s = true ↔ form s := by
  unfold formB
  simp only [Bool.and_eq_true, decide_eq_true_eq, List.all_eq_true, List.mem_range]
  constructor
  · rintro ⟨h, h2⟩
    obtain ⟨a, b, c, d, e, f, g, h, i, j, rfl⟩ := ten s h
    have k0 := h2 0 (by omega); have k1 := h2 1 (by omega); have k2 := h2 2 (by omega); have k3 := h2 3 (by omega); have k4 := h2 4 (by omega)
    have k5 := h2 5 (by omega); have k6 := h2 6 (by omega); have k7 := h2 7 (by omega); have k8 := h2 8 (by omega); have k9 := h2 9 (by omega)
    simp [okAt] at k0 k1 k2 k3 k4 k5 k6 k7 k8 k9
    subst k4 k7
    exact ⟨a, b, c, d, f, g, i, j, rfl, k0, k1, k2, k3, k5, k6, k8, k9⟩
  · rintro ⟨a, b, c, d, e, f, g, h, rfl, k0, k1, k2, k3, k5, k6, k8, k9⟩
    refine ⟨rfl, ?_⟩
    intro i hi
    have : i = 0 ∨ i = 1 ∨ i = 2 ∨ i = 3 ∨ i = 4 ∨ i = 5 ∨ i = 6 ∨ i = 7 ∨ i = 8 ∨ i = 9 := by omega
    rcases this with rfl | rfl | rfl | rfl | rfl | rfl | rfl | rfl | rfl | rfl <;> simp [okAt, k0, k1, k2, k3, k5, k6, k8, k9]
theorem formB_false {s : List UInt8} : formB s = false ↔ ¬ form s := by rw [← formB_true]; simp
theorem formB_len {s : List UInt8} (h : s.length ≠ 10) : formB s = false := by unfold formB; simp [h]
theorem formB_no {s : List UInt8} {k : Nat} (hk : k < 10) (h : okAt k (s.getD k 0) = false) : formB s = false := by
  cases e : formB s with
  | false => rfl
  | true =>
    unfold formB at e
    simp only [Bool.and_eq_true, decide_eq_true_eq, List.all_eq_true, List.mem_range] at e
    rw [e.2 k hk] at h; cases h
theorem formB_all {s : List UInt8} (hl : s.length = 10) (h : okUpTo s 10) : formB s = true := by
  unfold formB
  simp only [Bool.and_eq_true, decide_eq_true_eq, List.all_eq_true, List.mem_range]
  exact ⟨hl, fun i hi => h i hi⟩
theorem okUpTo_succ {s : List UInt8} {k : Nat} (h : okUpTo s k) (hk : okAt k (s.getD k 0) = true) : okUpTo s (k + 1) := by
  intro i hi
  rcases Nat.lt_or_ge i k with g | g
  · exact h i g
  · rw [show i = k by omega]; exact hk
def parE (s : List UInt8) : Int := if formB s = true then ofE (yearOf s) (monthOf s) (dayIn s) else 5
def parN (s : List UInt8) : Int := if formB s = true then ofN (yearOf s) (monthOf s) (dayIn s) else 0
/-- what is read is the day whose text it is -/
theorem par_back {s : List UInt8} (h : parE s = 0) : isDate (parN s) (yearOf s) (monthOf s) (dayIn s) ∧ dateL (yearOf s) (monthOf s) (dayIn s) = s := by
  unfold parE at h
  cases hf : formB s with
  | false => rw [hf] at h; simp at h
  | true =>
    rw [hf] at h
    simp only [if_true] at h
    have hok : okDate (yearOf s) (monthOf s) (dayIn s) := by
      unfold ofE at h; split at h
      · assumption
      · omega
    refine ⟨⟨hok, ?_⟩, (form_read (formB_true.1 hf)).1⟩
    unfold parN
    rw [hf]
    simp only [if_true]
    unfold ofN; rw [if_pos hok]
/-- a day's text is read as that day -/
theorem par_text {day y m d : Int} (h : isDate day y m d) : parN (dateL y m d) = day ∧ parE (dateL y m d) = 0 := by
  obtain ⟨h1, e⟩ := h
  have r := (dim_range y m).2
  obtain ⟨p1, p2, p3, p4, p5, p6⟩ := h1
  obtain ⟨a, b, c⟩ := dateL_read (y := y) (m := m) (d := d) (by omega) (by omega) (by omega)
  unfold parN parE
  rw [formB_true.2 (dateL_form y m d), if_pos rfl, if_pos rfl, a, b, c]
  unfold ofN ofE
  rw [if_pos ⟨p1, p2, p3, p4, p5, p6⟩, if_pos ⟨p1, p2, p3, p4, p5, p6⟩]
  exact ⟨e, rfl⟩
end DM

/- Layer 10's mathematics: a series' text. -/
namespace EM
/-! texts cut at a point -/
theorem three_pieces {b : UInt8} {x y z : List UInt8} (hx : b ∉ x) (hy : b ∉ y) (hz : b ∉ z) : WM.pieces b (x ++ b :: (y ++ b :: z)) = [x, y, z] := by
  unfold WM.pieces WM.run
  rw [List.foldl_append, WM.foldl_in x hx, List.foldl_cons, List.foldl_append]
  have e1 : WM.step b ((([], []) : List (List UInt8) × List UInt8).1, (([], []) : List (List UInt8) × List UInt8).2 ++ x) b = ([x], []) := by simp [WM.step]
  rw [e1, WM.foldl_in y hy, List.foldl_cons]
  have e2 : WM.step b ((([x], []) : List (List UInt8) × List UInt8).1, (([x], []) : List (List UInt8) × List UInt8).2 ++ y) b = ([x, y], []) := by simp [WM.step]
  rw [e2, WM.foldl_in z hz]
  simp
/-- what the run has gone through -/
def flatB (b : UInt8) : List (List UInt8) → List UInt8
  | [] => []
  | p :: r => p ++ b :: flatB b r
theorem flatB_snoc (b : UInt8) (ps : List (List UInt8)) (q : List UInt8) : flatB b (ps ++ [q]) = flatB b ps ++ (q ++ [b]) := by
  induction ps with
  | nil => simp [flatB]
  | cons p ps ih => simp [flatB, ih]
theorem run_all (b : UInt8) (l : List UInt8) : flatB b (WM.run b l).1 ++ (WM.run b l).2 = l ∧ (∀ p ∈ (WM.run b l).1, b ∉ p) ∧ b ∉ (WM.run b l).2 := by
  induction l using WM.snoc_ind with
  | h0 => simp [WM.run_nil, flatB]
  | h1 l c ih =>
    obtain ⟨h1, h2, h3⟩ := ih
    by_cases h : c = b
    · subst h
      rw [WM.run_snoc_at]
      refine ⟨?_, ?_, by simp⟩
      · simp only
        rw [flatB_snoc, List.append_nil, ← List.append_assoc, h1]
      · intro p hp
        rcases List.mem_append.1 hp with hp | hp
        · exact h2 p hp
        · rw [List.mem_singleton.1 hp]; exact h3
    · rw [WM.run_snoc_in h]
      refine ⟨?_, h2, ?_⟩
      · simp only
        rw [← List.append_assoc, h1]
      · simp only [List.mem_append, List.mem_singleton]
        rintro (g | g)
        · exact h3 g
        · exact h g.symm
theorem pieces_three {b : UInt8} {l x y z : List UInt8} (h : WM.pieces b l = [x, y, z]) : l = x ++ b :: (y ++ b :: z) ∧ b ∉ x ∧ b ∉ y ∧ b ∉ z := by
  obtain ⟨h1, h2, h3⟩ := run_all b l
  unfold WM.pieces at h
  have h' : (WM.run b l).1 ++ [(WM.run b l).2] = [x, y] ++ [z] := h
  obtain ⟨e1, e2⟩ := List.append_inj' h' rfl
  injection e2 with e2
  rw [e1, e2] at h1
  rw [e1] at h2
  rw [e2] at h3
  refine ⟨?_, h2 x (by simp), h2 y (by simp), h3⟩
  rw [← h1]; simp [flatB]

/-! eight digits -/
def d8 (y m d : Int) : List UInt8 := [DM.ch (y / 1000), DM.ch (y / 100), DM.ch (y / 10), DM.ch y, DM.ch (m / 10), DM.ch m, DM.ch (d / 10), DM.ch d]
theorem dv_dval (c : UInt8) : WM.dval c = DM.dv c := rfl
theorem val8 (a b c d e f g h : UInt8) : WM.val [a, b, c, d, e, f, g, h] = 10000000 * DM.dv a + 1000000 * DM.dv b + 100000 * DM.dv c + 10000 * DM.dv d + 1000 * DM.dv e + 100 * DM.dv f + 10 * DM.dv g + DM.dv h := by
  unfold WM.val
  simp only [List.foldl_cons, List.foldl_nil, dv_dval]
  omega
theorem d8_val {y m d : Int} (hy : 0 ≤ y ∧ y ≤ 9999) (hm : 0 ≤ m ∧ m ≤ 99) (hd : 0 ≤ d ∧ d ≤ 99) : WM.val (d8 y m d) = 10000 * y + 100 * m + d := by
  unfold d8
  rw [val8]
  simp only [DM.ch_dv]
  omega
theorem isD_dig {c : UInt8} : WM.dig c = true ↔ DM.isD c := by unfold WM.dig DM.isD; simp
theorem eight {α : Type} (s : List α) (h : s.length = 8) : ∃ a b c d e f g k, s = [a, b, c, d, e, f, g, k] := by
  match s, h with
  | [a, b, c, d, e, f, g, k], _ => exact ⟨a, b, c, d, e, f, g, k, rfl⟩
theorem d8_of {l : List UInt8} (hl : l.length = 8) (ha : l.all WM.dig = true) : d8 (WM.val l / 10000) (WM.val l / 100 % 100) (WM.val l % 100) = l ∧ 0 ≤ WM.val l ∧ WM.val l ≤ 99999999 := by
  obtain ⟨a, b, c, d, e, f, g, k, rfl⟩ := eight l hl
  simp only [List.all_cons, List.all_nil, Bool.and_eq_true, Bool.and_true, isD_dig] at ha
  obtain ⟨ha, hb, hc, hd, he, hf, hg, hk⟩ := ha
  have ra := DM.dv_range ha
  have rb := DM.dv_range hb
  have rc := DM.dv_range hc
  have rd := DM.dv_range hd
  have re := DM.dv_range he
  have rf := DM.dv_range hf
  have rg := DM.dv_range hg
  have rk := DM.dv_range hk
  rw [val8]
  unfold d8
  refine ⟨?_, by omega, by omega⟩
  rw [DM.ch_of ha (by omega), DM.ch_of hb (by omega), DM.ch_of hc (by omega), DM.ch_of hd (by omega), DM.ch_of he (by omega), DM.ch_of hf (by omega), DM.ch_of hg (by omega), DM.ch_of hk (by omega)]
theorem d8_dig (y m d : Int) : (d8 y m d).length = 8 ∧ (d8 y m d).all WM.dig = true := by
  refine ⟨rfl, ?_⟩
  unfold d8
  simp only [List.all_cons, List.all_nil, Bool.and_eq_true, Bool.and_true, isD_dig]
  exact ⟨DM.ch_isD _, DM.ch_isD _, DM.ch_isD _, DM.ch_isD _, DM.ch_isD _, DM.ch_isD _, DM.ch_isD _, DM.ch_isD _⟩

/-! print -/
def may (s : Ser) : Prop := (1 ≤ s.kind ∧ s.kind ≤ 3) ∧ (0 ≤ s.expiry ∧ s.expiry ≤ 73048)
def tail (s : Ser) : List UInt8 := if s.kind = 1 then [102] else (if s.kind = 2 then 99 else 112) :: WM.textL s.strike
def txt (s : Ser) (y m d : Int) : List UInt8 := s.prod.data.toList ++ 46 :: (d8 y m d ++ 46 :: tail s)
open Classical in
noncomputable def printL (s : Ser) : List UInt8 :=
  if h : may s ∧ ∃ p : Int × Int × Int, DM.isDate s.expiry p.1 p.2.1 p.2.2 then txt s (Classical.choose h.2).1 (Classical.choose h.2).2.1 (Classical.choose h.2).2.2 else []
theorem print_is {s : Ser} {y m d : Int} (hk : 1 ≤ s.kind ∧ s.kind ≤ 3) (h : DM.isDate s.expiry y m d) : printL s = txt s y m d := by
  obtain ⟨_, _, _, r1, r2⟩ := DM.split_day h
  have hh : may s ∧ ∃ p : Int × Int × Int, DM.isDate s.expiry p.1 p.2.1 p.2.2 := ⟨⟨hk, r1, r2⟩, (y, m, d), h⟩
  unfold printL
  rw [dif_pos hh]
  obtain ⟨e1, e2, e3⟩ := DM.isDate_unique (Classical.choose_spec hh.2) h
  rw [e1, e2, e3]
theorem print_no {s : Ser} (h : ¬ may s) : printL s = [] := by
  unfold printL; rw [dif_neg (fun g => h g.1)]
theorem may_date {s : Ser} (h : may s) : ∃ y m d, DM.isDate s.expiry y m d := DM.isDate_exists h.2.1 h.2.2
theorem print_some {s : Ser} (h : may s) : printL s ≠ [] := by
  obtain ⟨y, m, d, hd⟩ := may_date h
  rw [print_is h.1 hd]
  unfold txt; simp

/-! parse -/
/-- three parts: a name, eight digits, and f or what begins with c or p -/
def form (ps : List (List UInt8)) : Prop := ∃ a b c, ps = [a, b, c] ∧ WM.name a = true ∧ (b.length = 8 ∧ b.all WM.dig = true) ∧ (c = [102] ∨ c.headD 0 = 99 ∨ c.headD 0 = 112)
def pA (t : List UInt8) : List UInt8 := (WM.pieces 46 t).getD 0 []
def pB (t : List UInt8) : List UInt8 := (WM.pieces 46 t).getD 1 []
def pC (t : List UInt8) : List UInt8 := (WM.pieces 46 t).getD 2 []
def yy (t : List UInt8) : Int := WM.val (pB t) / 10000
def mm (t : List UInt8) : Int := WM.val (pB t) / 100 % 100
def dd (t : List UInt8) : Int := WM.val (pB t) % 100
open Classical in
noncomputable def parE (t : List UInt8) : Int :=
  if form (WM.pieces 46 t) then
    if DM.ofE (yy t) (mm t) (dd t) ≠ 0 then 15 else if pC t = [102] then 0 else if WM.intE (pC t).tail ≠ 0 then WM.intE (pC t).tail else if (WM.intN (pC t).tail).natAbs ≤ 16777216 then 0 else 17
  else 5
open Classical in
noncomputable def parN (t : List UInt8) : Ser :=
  if parE t = 0 then ⟨⟨(pA t).toArray⟩, if pC t = [102] then 1 else if (pC t).headD 0 = 99 then 2 else 3, DM.ofN (yy t) (mm t) (dd t), if pC t = [102] then 0 else WM.intN (pC t).tail⟩ else zero
theorem par_form {t : List UInt8} (h : ¬ form (WM.pieces 46 t)) : parE t = 5 ∧ parN t = zero := by
  have e : parE t = 5 := by unfold parE; rw [if_neg h]
  exact ⟨e, by unfold parN; rw [e, if_neg (by decide)]⟩
theorem par_date {t : List UInt8} (h : form (WM.pieces 46 t)) (h2 : DM.ofE (yy t) (mm t) (dd t) ≠ 0) : parE t = 15 ∧ parN t = zero := by
  have e : parE t = 15 := by unfold parE; rw [if_pos h, if_pos h2]
  exact ⟨e, by unfold parN; rw [e, if_neg (by decide)]⟩
theorem par_future {t : List UInt8} (h : form (WM.pieces 46 t)) (h2 : DM.ofE (yy t) (mm t) (dd t) = 0) (h3 : pC t = [102]) : parE t = 0 ∧ parN t = ⟨⟨(pA t).toArray⟩, 1, DM.ofN (yy t) (mm t) (dd t), 0⟩ := by
  have e : parE t = 0 := by unfold parE; rw [if_pos h, if_neg (by simp [h2]), if_pos h3]
  exact ⟨e, by unfold parN; rw [if_pos e, if_pos h3, if_pos h3]⟩
theorem par_int {t : List UInt8} (h : form (WM.pieces 46 t)) (h2 : DM.ofE (yy t) (mm t) (dd t) = 0) (h3 : pC t ≠ [102]) (h4 : WM.intE (pC t).tail ≠ 0) : parE t = WM.intE (pC t).tail ∧ parN t = zero := by
  have e : parE t = WM.intE (pC t).tail := by unfold parE; rw [if_pos h, if_neg (by simp [h2]), if_neg h3, if_pos h4]
  exact ⟨e, by unfold parN; rw [e, if_neg h4]⟩
theorem par_price {t : List UInt8} (h : form (WM.pieces 46 t)) (h2 : DM.ofE (yy t) (mm t) (dd t) = 0) (h3 : pC t ≠ [102]) (h4 : WM.intE (pC t).tail = 0) (h5 : ¬ (WM.intN (pC t).tail).natAbs ≤ 16777216) : parE t = 17 ∧ parN t = zero := by
  have e : parE t = 17 := by unfold parE; rw [if_pos h, if_neg (by simp [h2]), if_neg h3, if_neg (by simp [h4]), if_neg h5]
  exact ⟨e, by unfold parN; rw [e, if_neg (by decide)]⟩
theorem par_option {t : List UInt8} (h : form (WM.pieces 46 t)) (h2 : DM.ofE (yy t) (mm t) (dd t) = 0) (h3 : pC t ≠ [102]) (h4 : WM.intE (pC t).tail = 0) (h5 : (WM.intN (pC t).tail).natAbs ≤ 16777216) :
    parE t = 0 ∧ parN t = ⟨⟨(pA t).toArray⟩, if (pC t).headD 0 = 99 then 2 else 3, DM.ofN (yy t) (mm t) (dd t), WM.intN (pC t).tail⟩ := by
  have e : parE t = 0 := by unfold parE; rw [if_pos h, if_neg (by simp [h2]), if_neg h3, if_neg (by simp [h4]), if_pos h5]
  exact ⟨e, by unfold parN; rw [if_pos e, if_neg h3, if_neg h3]⟩

/-- what is parsed is printed as it was -/
theorem print_par {t : List UInt8} (h : parE t = 0) : printL (parN t) = t := by
  by_cases hf : form (WM.pieces 46 t)
  · by_cases hd : DM.ofE (yy t) (mm t) (dd t) = 0
    · obtain ⟨a, b, c, hp, hn, ⟨hb8, hbd⟩, hc⟩ := hf
      have hf' : form (WM.pieces 46 t) := ⟨a, b, c, hp, hn, ⟨hb8, hbd⟩, hc⟩
      have eA : pA t = a := by unfold pA; rw [hp]; rfl
      have eB : pB t = b := by unfold pB; rw [hp]; rfl
      have eC : pC t = c := by unfold pC; rw [hp]; rfl
      obtain ⟨e8, v0, v1⟩ := d8_of hb8 hbd
      have ok : DM.okDate (yy t) (mm t) (dd t) := by
        unfold DM.ofE at hd
        split at hd
        · assumption
        · cases hd
      have hdate : DM.isDate (DM.ofN (yy t) (mm t) (dd t)) (yy t) (mm t) (dd t) := by
        refine ⟨ok, ?_⟩
        unfold DM.ofN; rw [if_pos ok]
      have e8' : d8 (yy t) (mm t) (dd t) = b := by unfold yy mm dd; rw [eB]; exact e8
      obtain ⟨ht, _, _, _⟩ := pieces_three hp
      by_cases h3 : pC t = [102]
      · obtain ⟨_, e⟩ := par_future hf' hd h3
        rw [e, print_is (y := yy t) (m := mm t) (d := dd t) (by simp) hdate]
        unfold txt tail
        rw [e8', eA]
        rw [eC] at h3
        simp only [if_true]
        rw [ht, h3]
      · by_cases h4 : WM.intE (pC t).tail = 0
        · by_cases h5 : (WM.intN (pC t).tail).natAbs ≤ 16777216
          · obtain ⟨_, e⟩ := par_option hf' hd h3 h4 h5
            have hk : ∀ k : Int, k = (if (pC t).headD 0 = 99 then 2 else 3) → 1 ≤ k ∧ k ≤ 3 := by intro k hk; subst hk; split <;> omega
            rw [e, print_is (y := yy t) (m := mm t) (d := dd t) (hk _ rfl) hdate]
            unfold txt tail
            rw [e8', eA]
            simp only
            rw [WM.text_int h4]
            have hne : ¬ ((if (pC t).headD 0 = 99 then (2 : Int) else 3) = 1) := by split <;> omega
            rw [if_neg hne]
            have hcc : (if (if (pC t).headD 0 = 99 then (2 : Int) else 3) = 2 then (99 : UInt8) else 112) :: (pC t).tail = c := by
              rw [eC] at h3 ⊢
              rcases hc with hc | hc | hc
              · exact absurd hc h3
              · cases c with
                | nil => simp at hc
                | cons x r =>
                  simp at hc
                  subst hc
                  simp
              · cases c with
                | nil => simp at hc
                | cons x r =>
                  simp at hc
                  subst hc
                  simp
            rw [hcc, ht]
          · rw [(par_price hf' hd h3 h4 h5).1] at h; cases h
        · rw [(par_int hf' hd h3 h4).1] at h; exact absurd h h4
    · rw [(par_date hf hd).1] at h; cases h
  · rw [(par_form hf).1] at h; cases h

theorem no_point_name {l : List UInt8} (h : WM.name l = true) : (46 : UInt8) ∉ l := by
  intro hm
  unfold WM.name at h
  simp only [Bool.and_eq_true] at h
  have := List.all_eq_true.1 h.1.1 _ hm
  revert this; decide
theorem no_point_dig {l : List UInt8} (h : l.all WM.dig = true) : (46 : UInt8) ∉ l := by
  intro hm
  have := List.all_eq_true.1 h _ hm
  revert this; decide
theorem no_point_text (n : Int) : (46 : UInt8) ∉ WM.textL n := by
  have := no_point_dig (WM.dec_dig n.natAbs)
  unfold WM.textL
  split
  · simp only [List.mem_cons, not_or]; exact ⟨by decide, this⟩
  · exact this
/-- what can be printed is parsed as it was -/
theorem par_print {s : Ser} (h : may s) (hn : WM.name s.prod.data.toList = true) (hs : -16777216 ≤ s.strike ∧ s.strike ≤ 16777216) (hf : s.kind = 1 → s.strike = 0) : parE (printL s) = 0 ∧ parN (printL s) = s := by
  obtain ⟨y, m, d, hd⟩ := may_date h
  obtain ⟨ok, hday⟩ := hd
  have okd := ok
  obtain ⟨y1, y2, m1, m2, d1, d2⟩ := ok
  have dr := DM.dim_range y m
  rw [print_is h.1 ⟨okd, hday⟩]
  obtain ⟨g8, gd⟩ := d8_dig y m d
  have ht : (46 : UInt8) ∉ tail s := by
    unfold tail
    split
    · decide
    · simp only [List.mem_cons, not_or]
      exact ⟨by split <;> decide, no_point_text _⟩
  have hp : WM.pieces 46 (txt s y m d) = [s.prod.data.toList, d8 y m d, tail s] := three_pieces (no_point_name hn) (no_point_dig gd) ht
  have hform : form (WM.pieces 46 (txt s y m d)) := by
    refine ⟨_, _, _, hp, hn, ⟨g8, gd⟩, ?_⟩
    unfold tail
    by_cases k1 : s.kind = 1
    · rw [if_pos k1]; exact .inl rfl
    · rw [if_neg k1]
      by_cases k2 : s.kind = 2
      · rw [if_pos k2]; exact .inr (.inl rfl)
      · rw [if_neg k2]; exact .inr (.inr rfl)
  have eA : pA (txt s y m d) = s.prod.data.toList := by unfold pA; rw [hp]; rfl
  have eB : pB (txt s y m d) = d8 y m d := by unfold pB; rw [hp]; rfl
  have eC : pC (txt s y m d) = tail s := by unfold pC; rw [hp]; rfl
  have ev := d8_val (y := y) (m := m) (d := d) ⟨by omega, by omega⟩ ⟨by omega, by omega⟩ ⟨by omega, by omega⟩
  have ey : yy (txt s y m d) = y := by unfold yy; rw [eB, ev]; omega
  have em : mm (txt s y m d) = m := by unfold mm; rw [eB, ev]; omega
  have ed : dd (txt s y m d) = d := by unfold dd; rw [eB, ev]; omega
  have hE : DM.ofE (yy (txt s y m d)) (mm (txt s y m d)) (dd (txt s y m d)) = 0 := by rw [ey, em, ed]; unfold DM.ofE; rw [if_pos okd]
  have hN : DM.ofN (yy (txt s y m d)) (mm (txt s y m d)) (dd (txt s y m d)) = s.expiry := by rw [ey, em, ed]; unfold DM.ofN; rw [if_pos okd, hday]
  have e0 : (⟨(s.prod.data.toList).toArray⟩ : ByteArray) = s.prod := by simp
  by_cases k1 : s.kind = 1
  · have hC : pC (txt s y m d) = [102] := by rw [eC]; unfold tail; rw [if_pos k1]
    obtain ⟨e1, e2⟩ := par_future hform hE hC
    refine ⟨e1, ?_⟩
    rw [e2, eA, hN, e0]
    have := hf k1
    cases s
    simp_all
  · have htail : tail s = (if s.kind = 2 then 99 else 112) :: WM.textL s.strike := by unfold tail; rw [if_neg k1]
    have hC : pC (txt s y m d) ≠ [102] := by
      rw [eC, htail]
      intro e
      injection e with e
      revert e
      split <;> decide
    have hrest : (pC (txt s y m d)).tail = WM.textL s.strike := by rw [eC, htail]; rfl
    obtain ⟨i1, i2⟩ := WM.int_text s.strike
    have hm : s.strike.natAbs ≤ WM.most.natAbs := by unfold WM.most; omega
    rw [if_pos hm] at i1
    have i3 := i2 hm
    obtain ⟨e1, e2⟩ := par_option hform hE hC (by rw [hrest]; exact i1) (by rw [hrest, i3]; omega)
    refine ⟨e1, ?_⟩
    rw [e2, eA, hN, e0, hrest, i3]
    have hk : (if (pC (txt s y m d)).headD 0 = 99 then (2 : Int) else 3) = s.kind := by
      rw [eC, htail]
      obtain ⟨⟨a1, a2⟩, _⟩ := h
      by_cases k2 : s.kind = 2
      · simp [k2]
      · have : s.kind = 3 := by omega
        simp [this]
    rw [hk]
end EM

/- Layer 10's mathematics: eight digits as a date, the last part's kind, a date without its strokes. -/
namespace EM
open Go
set_option linter.unusedSimpArgs false
theorem strokes (y m d : Int) : Lib.replaceAll (DM.dateL y m d) [45] [] = d8 y m d := by
  have hc : ∀ n, (DM.ch n == 45) = false := fun n => by
    have := DM.ch_isD n
    unfold DM.isD at this
    rw [beq_eq_false_iff_ne]
    intro e
    rw [e] at this
    revert this; decide
  rw [replace_out]
  unfold DM.dateL d8
  simp [hc]
def tenL (b : List UInt8) : List UInt8 := (b.take 4 ++ [45]) ++ (b.take 6).drop 4 ++ [45] ++ b.drop 6
theorem ten_digits {b : List UInt8} (h8 : b.length = 8) (hd : b.all WM.dig = true) : DM.parE (tenL b) = DM.ofE (WM.val b / 10000) (WM.val b / 100 % 100) (WM.val b % 100) ∧ DM.parN (tenL b) = DM.ofN (WM.val b / 10000) (WM.val b / 100 % 100) (WM.val b % 100) := by
  obtain ⟨a, b', c, d, e, f, g, k, rfl⟩ := eight b h8
  simp only [List.all_cons, List.all_nil, Bool.and_eq_true, Bool.and_true, isD_dig] at hd
  obtain ⟨h1, h2, h3, h4, h5, h6, h7, h9⟩ := hd
  have ex : tenL [a, b', c, d, e, f, g, k] = [a, b', c, d, 45, e, f, 45, g, k] := rfl
  have hf : DM.formB (tenL [a, b', c, d, e, f, g, k]) = true := DM.formB_true.2 ⟨a, b', c, d, e, f, g, k, ex, h1, h2, h3, h4, h5, h6, h7, h9⟩
  have r1 := DM.dv_range h1; have r2 := DM.dv_range h2; have r3 := DM.dv_range h3; have r4 := DM.dv_range h4; have r5 := DM.dv_range h5; have r6 := DM.dv_range h6; have r7 := DM.dv_range h7; have r8 := DM.dv_range h9
  have y1 : DM.yearOf (tenL [a, b', c, d, e, f, g, k]) = 1000 * DM.dv a + 100 * DM.dv b' + 10 * DM.dv c + DM.dv d := by
    show DM.dgo 0 [a, b', c, d] = _
    simp only [DM.dgo, h1, h2, h3, h4, if_true, if_pos]; omega
  have y2 : DM.monthOf (tenL [a, b', c, d, e, f, g, k]) = 10 * DM.dv e + DM.dv f := by
    show DM.dgo 0 [e, f] = _
    simp only [DM.dgo, h5, h6, if_true, if_pos]; omega
  have y3 : DM.dayIn (tenL [a, b', c, d, e, f, g, k]) = 10 * DM.dv g + DM.dv k := by
    show DM.dgo 0 [g, k] = _
    simp only [DM.dgo, h7, h9, if_true, if_pos]; omega
  have v := val8 a b' c d e f g k
  have z1 : WM.val [a, b', c, d, e, f, g, k] / 10000 = 1000 * DM.dv a + 100 * DM.dv b' + 10 * DM.dv c + DM.dv d := by rw [v]; omega
  have z2 : WM.val [a, b', c, d, e, f, g, k] / 100 % 100 = 10 * DM.dv e + DM.dv f := by rw [v]; omega
  have z3 : WM.val [a, b', c, d, e, f, g, k] % 100 = 10 * DM.dv g + DM.dv k := by rw [v]; omega
  unfold DM.parE DM.parN
  rw [if_pos hf, if_pos hf, y1, y2, y3, z1, z2, z3]
  exact ⟨rfl, rfl⟩
theorem ten_others {b : List UInt8} (h8 : b.length = 8) (hd : b.all WM.dig = false) : DM.parE (tenL b) = 5 ∧ DM.parN (tenL b) = 0 := by
  obtain ⟨a, b', c, d, e, f, g, k, rfl⟩ := eight b h8
  have hf : DM.formB (tenL [a, b', c, d, e, f, g, k]) = false := by
    rw [DM.formB_false]
    rintro ⟨a1, b1, c1, d1, e1, f1, g1, k1, ex, h1, h2, h3, h4, h5, h6, h7, h9⟩
    have ex2 : tenL [a, b', c, d, e, f, g, k] = [a, b', c, d, 45, e, f, 45, g, k] := rfl
    rw [ex2] at ex
    simp only [List.cons.injEq, and_true, true_and] at ex
    obtain ⟨rfl, rfl, rfl, rfl, rfl, rfl, rfl, rfl⟩ := ex
    have : ([a, b', c, d, e, f, g, k] : List UInt8).all WM.dig = true := by
      simp only [List.all_cons, List.all_nil, Bool.and_eq_true, Bool.and_true, isD_dig]
      exact ⟨h1, h2, h3, h4, h5, h6, h7, h9⟩
    rw [this] at hd; cases hd
  unfold DM.parE DM.parN
  rw [hf]
  exact ⟨rfl, rfl⟩
theorem of_cases (y m d : Int) : DM.ofE y m d = 0 ∨ DM.ofE y m d = 15 := by unfold DM.ofE; split <;> simp
theorem pre_one {b : UInt8} (hb : b ≠ 0) (c : List UInt8) : Lib.hasPrefix c [b] = decide (c.headD 0 = b) := by
  unfold Lib.hasPrefix
  cases c with
  | nil => simp [List.isPrefixOf]; exact fun e => hb e.symm
  | cons x r =>
    by_cases h : x = b
    · simp [List.isPrefixOf, h]
    · have h' : ¬ b = x := fun e => h e.symm
      simp [List.isPrefixOf, h, h']
theorem trim_one {b : UInt8} (c : List UInt8) (h : Lib.hasPrefix c [b] = true) : Lib.trimPrefix c [b] = c.tail := by unfold Lib.trimPrefix; rw [if_pos h]; simp
/-- the last part's kind, what follows its letter, and whether it has one -/
def ckK (c : List UInt8) : Int := if c = [102] then 1 else if c.headD 0 = 99 then 2 else if c.headD 0 = 112 then 3 else 0
def ckR (c : List UInt8) : List UInt8 := if c = [102] then [] else if c.headD 0 = 99 ∨ c.headD 0 = 112 then c.tail else []
def ckB (c : List UInt8) : Bool := decide (c = [102] ∨ c.headD 0 = 99 ∨ c.headD 0 = 112)
end EM
