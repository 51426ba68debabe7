/- Put together: WordMath, OrderMath, SeriesMath, MemMath, TradeMath, CentsMath, ListMath, SumMath. -/
import Derived.Below
import Derived.Laws.Strings
import Derived.IntWalk
/- Texts as lists of bytes: names, digits, numbers and how they are written. -/
namespace WM

def dig (c : UInt8) : Bool := decide (48 ≤ c.toNat) && decide (c.toNat ≤ 57)
def letter (c : UInt8) : Bool := decide (97 ≤ c.toNat) && decide (c.toNat ≤ 122)
def most : Int := 1152921504606846976
/-- is it a name -/
def name (l : List UInt8) : Bool := l.all (fun c => letter c || dig c) && letter (l.headD 0) && decide (l.length ≤ 12)
/-- digits alone, no nought ahead -/
def digits (l : List UInt8) : Bool := l.all dig && (l.length == 1 || (decide (1 < l.length) && l.headD 0 != 48))
def dval (c : UInt8) : Int := (c.toNat : Int) - 48
/-- the number that digits write -/
def val (l : List UInt8) : Int := l.foldl (fun n c => 10 * n + dval c) 0
/-- the same, but that it stops above the greatest -/
def sval (l : List UInt8) : Int := l.foldl (fun n c => if 115292150460684697 < n then most + 1 else 10 * n + dval c) 0
def cut (l : List UInt8) : List UInt8 := if l.headD 0 == 45 then l.tail else l
def below (l : List UInt8) : Bool := l.headD 0 == 45
def signE (v : Int) (b : Bool) : Int := if b = true ∧ v = 0 then 5 else if most < v then 3 else 0
def signN (v : Int) (b : Bool) : Int := if b = true ∧ v = 0 then 0 else if most < v then 0 else if b = true then -v else v
def intE (l : List UInt8) : Int := if digits (cut l) = true then signE (val (cut l)) (below l) else 5
def intN (l : List UInt8) : Int := if digits (cut l) = true then signN (val (cut l)) (below l) else 0
/-- the digits of a number -/
def dec (n : Nat) : List UInt8 := if h : n < 10 then [UInt8.ofNat (48 + n)] else dec (n / 10) ++ [UInt8.ofNat (48 + n % 10)]
termination_by n
decreasing_by omega

theorem take_snoc (l : List UInt8) (k : Nat) (h : k < l.length) : l.take (k + 1) = l.take k ++ [l[k]] := List.take_succ_eq_append_getElem h
theorem all_snoc (p : UInt8 → Bool) (l : List UInt8) (c : UInt8) : (l ++ [c]).all p = (l.all p && p c) := by simp
theorem all_take {p : UInt8 → Bool} {l : List UInt8} (h : l.all p = true) (k : Nat) : (l.take k).all p = true := by
  rw [List.all_eq_true] at *
  exact fun x hx => h x (List.mem_of_mem_take hx)
theorem all_get {p : UInt8 → Bool} {l : List UInt8} (h : l.all p = true) (k : Nat) (hk : k < l.length) : p l[k] = true := List.all_eq_true.1 h _ (List.getElem_mem hk)
theorem not_all {p : UInt8 → Bool} {l : List UInt8} (k : Nat) (hk : k < l.length) (h : p l[k] = false) : l.all p = false := by
  rw [Bool.eq_false_iff]
  intro a
  rw [all_get a k hk] at h
  exact absurd h (by simp)
theorem dig_true {c : UInt8} : dig c = true ↔ 48 ≤ (c.toNat : Int) ∧ (c.toNat : Int) ≤ 57 := by unfold dig; simp; omega
theorem dig_false {c : UInt8} : dig c = false ↔ (c.toNat : Int) < 48 ∨ 57 < (c.toNat : Int) := by rw [Bool.eq_false_iff, ne_eq, dig_true]; omega
theorem letter_true {c : UInt8} : letter c = true ↔ 97 ≤ (c.toNat : Int) ∧ (c.toNat : Int) ≤ 122 := by unfold letter; simp; omega
theorem letter_false {c : UInt8} : letter c = false ↔ (c.toNat : Int) < 97 ∨ 122 < (c.toNat : Int) := by rw [Bool.eq_false_iff, ne_eq, letter_true]; omega
theorem dval_range {c : UInt8} (h : dig c = true) : 0 ≤ dval c ∧ dval c ≤ 9 := by have := dig_true.1 h; unfold dval; omega

theorem val_snoc (l : List UInt8) (c : UInt8) : val (l ++ [c]) = 10 * val l + dval c := by simp [val]
theorem sval_snoc (l : List UInt8) (c : UInt8) : sval (l ++ [c]) = if 115292150460684697 < sval l then most + 1 else 10 * sval l + dval c := by unfold sval; rw [List.foldl_append]; rfl
theorem snoc_ind {P : List UInt8 → Prop} (h0 : P []) (h1 : ∀ l c, P l → P (l ++ [c])) (l : List UInt8) : P l := by
  have : ∀ n, ∀ l : List UInt8, l.length = n → P l := by
    intro n
    induction n with
    | zero => intro l h; rw [List.length_eq_zero_iff.1 h]; exact h0
    | succ n ih =>
      intro l h
      have hne : l ≠ [] := by intro e; rw [e] at h; simp at h
      rw [← List.dropLast_concat_getLast hne]
      exact h1 _ _ (ih _ (by simp [h]))
  exact this _ l rfl
theorem val_nonneg {l : List UInt8} (h : l.all dig = true) : 0 ≤ val l := by
  induction l using snoc_ind with
  | h0 => simp [val]
  | h1 l c ih =>
    rw [all_snoc, Bool.and_eq_true] at h
    have := ih h.1
    have := dval_range h.2
    rw [val_snoc]; omega
/-- below the greatest they are one -/
theorem sval_val {l : List UInt8} (h : l.all dig = true) : (0 ≤ sval l ∧ sval l ≤ 1152921504606846979) ∧ (val l ≤ most → sval l = val l) ∧ (most < val l → most < sval l) := by
  induction l using snoc_ind with
  | h0 => simp [val, sval, most]
  | h1 l c ih =>
    rw [all_snoc, Bool.and_eq_true] at h
    obtain ⟨⟨a0, a1⟩, a2, a3⟩ := ih h.1
    have hv := val_nonneg h.1
    have hd := dval_range h.2
    rw [val_snoc, sval_snoc]
    unfold most at *
    by_cases c1 : 115292150460684697 < sval l
    · rw [if_pos c1]
      by_cases c2 : val l ≤ 1152921504606846976
      · have := a2 c2; omega
      · omega
    · rw [if_neg c1]
      by_cases c2 : val l ≤ 1152921504606846976
      · have := a2 c2; omega
      · have := a3 (by omega); omega
theorem sign_sval {l : List UInt8} (h : l.all dig = true) (b : Bool) : signE (sval l) b = signE (val l) b ∧ signN (sval l) b = signN (val l) b := by
  obtain ⟨⟨a0, a1⟩, a2, a3⟩ := sval_val h
  by_cases c : val l ≤ most
  · rw [a2 c]; exact ⟨rfl, rfl⟩
  · have c' : most < val l := by omega
    have c2 := a3 c'
    have z1 : val l ≠ 0 := by unfold most at *; omega
    have z2 : sval l ≠ 0 := by unfold most at *; omega
    simp [signE, signN, c', c2, z1, z2]
theorem dec_length (n : Nat) : 1 ≤ (dec n).length := by
  unfold dec
  split <;> simp
theorem dec_small {n : Nat} (h : n < 10) : dec n = [UInt8.ofNat (48 + n)] := by rw [dec]; simp [h]
theorem dec_big {n : Nat} (h : ¬ n < 10) : dec n = dec (n / 10) ++ [UInt8.ofNat (48 + n % 10)] := by rw [dec]; simp [h]
theorem dval_of (d : Nat) (h : d < 10) : dval (UInt8.ofNat (48 + d)) = d := by
  unfold dval
  rw [UInt8.toNat_ofNat']
  omega
theorem dig_of (d : Nat) (h : d < 10) : dig (UInt8.ofNat (48 + d)) = true := by
  rw [dig_true, UInt8.toNat_ofNat']
  omega
theorem dec_dig (n : Nat) : (dec n).all dig = true := by
  induction n using dec.induct with
  | case1 n h => rw [dec_small h, List.all_cons, dig_of n h]; rfl
  | case2 n h ih => rw [dec_big h, all_snoc, ih, dig_of _ (by omega)]; rfl
theorem dec_val (n : Nat) : val (dec n) = n := by
  induction n using dec.induct with
  | case1 n h => rw [dec_small h]; show 10 * 0 + dval _ = _; rw [dval_of n h]; omega
  | case2 n h ih => rw [dec_big h, val_snoc, ih, dval_of _ (by omega)]; omega
theorem dec_head (n : Nat) (hn : 0 < n) : (dec n).headD 0 ≠ 48 := by
  induction n using dec.induct with
  | case1 n h =>
    rw [dec_small h]
    intro e
    have := congrArg UInt8.toNat e
    rw [List.headD_cons, UInt8.toNat_ofNat'] at this
    have h48 : (48 : UInt8).toNat = 48 := rfl
    omega
  | case2 n h ih =>
    have e := ih (by omega)
    rw [dec_big h]
    have hl := dec_length (n / 10)
    cases hd : dec (n / 10) with
    | nil => rw [hd] at hl; simp at hl
    | cons a t => rw [hd] at e; simpa using e
theorem dec_digits (n : Nat) : digits (dec n) = true := by
  unfold digits
  rw [dec_dig]
  by_cases h : n < 10
  · rw [dec_small h]; simp
  · have h1 := dec_head n (by omega)
    have hl : 1 < (dec n).length := by
      rw [dec_big h]; have := dec_length (n / 10); simp; omega
    rw [(bne_iff_ne).2 h1, decide_eq_true hl]
    simp
/-- there is one way to write a number -/
theorem dec_of {l : List UInt8} (h : digits l = true) : dec (val l).toNat = l := by
  have hd : l.all dig = true := by unfold digits at h; simp only [Bool.and_eq_true] at h; exact h.1
  have key : ∀ l : List UInt8, l.all dig = true → l ≠ [] → (l.length = 1 ∨ l.headD 0 ≠ 48) → dec (val l).toNat = l := by
    intro l
    induction l using snoc_ind with
    | h0 => exact fun _ h => absurd rfl h
    | h1 l c ih =>
    intro h _ h2
    rw [all_snoc, Bool.and_eq_true] at h
    have hc := dig_true.1 h.2
    have hr := dval_range h.2
    have hof : UInt8.ofNat (48 + (dval c).toNat) = c := by
      have : 48 + (dval c).toNat = c.toNat := by unfold dval at *; omega
      rw [this]; simp
    cases hl : l with
    | nil =>
      have e : val ([] ++ [c]) = dval c := by simp [val]
      rw [e, dec_small (by omega), hof]
      rfl
    | cons a t =>
      rw [← hl]
      have hne : l ≠ [] := by rw [hl]; simp
      have hh : l.headD 0 ≠ 48 := by
        rcases h2 with h2 | h2
        · rw [hl] at h2; simp at h2
        · rw [hl] at h2 ⊢; simpa using h2
      have e := ih h.1 hne (Or.inr hh)
      have hpos : 0 < val l := by
        rcases Int.lt_or_eq_of_le (val_nonneg h.1) with p | p
        · exact p
        · rw [← p] at e
          have : dec (0 : Int).toNat = [48] := by rw [dec_small (by decide)]; rfl
          rw [this] at e
          rw [← e] at hh
          exact absurd rfl hh
      rw [val_snoc]
      have e1 : (10 * val l + dval c).toNat / 10 = (val l).toNat := by omega
      have e2 : (10 * val l + dval c).toNat % 10 = (dval c).toNat := by omega
      rw [dec_big (by omega), e1, e2, e, hof]
  unfold digits at h
  simp only [Bool.and_eq_true, Bool.or_eq_true, beq_iff_eq, decide_eq_true_eq, bne_iff_ne, ne_eq] at h
  refine key l hd ?_ ?_
  · intro e; rw [e] at h; simp at h
  · rcases h.2 with h | h
    · exact Or.inl h
    · exact Or.inr h.2
end WM

/- Texts in order: the model's own order of bytes is a total order. -/
namespace OM
open Go
theorem bl_irrefl : ∀ x : List UInt8, Op.bytesLess x x = false
  | [] => rfl
  | a :: x => by
    simp [Op.bytesLess, bl_irrefl x]
theorem bl_trans : ∀ x y z : List UInt8, Op.bytesLess x y = true → Op.bytesLess y z = true → Op.bytesLess x z = true
  | [], [], z, h, _ => by simp [Op.bytesLess] at h
  | [], _ :: _, [], _, h => by simp [Op.bytesLess] at h
  | [], _ :: _, _ :: _, _, _ => by simp [Op.bytesLess]
  | _ :: _, [], _, h, _ => by simp [Op.bytesLess] at h
  | _ :: _, _ :: _, [], _, h => by simp [Op.bytesLess] at h
  | a :: x, b :: y, c :: z, h1, h2 => by
    simp only [Op.bytesLess, Bool.or_eq_true, decide_eq_true_eq, Bool.and_eq_true, beq_iff_eq] at h1 h2 ⊢
    rcases h1 with h1 | ⟨rfl, h1⟩
    · rcases h2 with h2 | ⟨rfl, h2⟩
      · left; rw [UInt8.lt_iff_toNat_lt] at *; omega
      · left; exact h1
    · rcases h2 with h2 | ⟨rfl, h2⟩
      · left; exact h2
      · right; exact ⟨rfl, bl_trans x y z h1 h2⟩
theorem bl_asymm {x y : List UInt8} (h : Op.bytesLess x y = true) : Op.bytesLess y x = false := by
  cases e : Op.bytesLess y x
  · rfl
  · have := bl_trans _ _ _ h e
    rw [bl_irrefl] at this; cases this
theorem bl_tri : ∀ x y : List UInt8, Op.bytesLess x y = true ∨ x = y ∨ Op.bytesLess y x = true
  | [], [] => .inr (.inl rfl)
  | [], _ :: _ => .inl (by simp [Op.bytesLess])
  | _ :: _, [] => .inr (.inr (by simp [Op.bytesLess]))
  | a :: x, b :: y => by
    simp only [Op.bytesLess, Bool.or_eq_true, decide_eq_true_eq, Bool.and_eq_true, beq_iff_eq]
    have h : a < b ∨ a = b ∨ b < a := by
      rw [UInt8.lt_iff_toNat_lt, UInt8.lt_iff_toNat_lt, ← UInt8.toNat_inj]; omega
    rcases h with h | rfl | h
    · exact .inl (.inl h)
    · rcases bl_tri x y with g | rfl | g
      · exact .inl (.inr ⟨rfl, g⟩)
      · exact .inr (.inl rfl)
      · exact .inr (.inr (.inr ⟨rfl, g⟩))
    · exact .inr (.inr (.inl h))
end OM

/- Layer 10's mathematics: series in order, sorted lists without repeats. -/
namespace EM
open Go
structure Ser where
  prod : ByteArray
  kind : Int
  expiry : Int
  strike : Int
def zero : Ser := ⟨⟨#[]⟩, 0, 0, 0⟩
def less (a b : Ser) : Bool := Op.bytesLess a.prod.toList b.prod.toList
def ord (a b : Int) : Int := if a < b then -1 else if b < a then 1 else 0
def cmp (a b : Ser) : Int :=
  if less a b = true then -1 else if less b a = true then 1 else if a.expiry ≠ b.expiry then ord a.expiry b.expiry else if a.kind ≠ b.kind then ord a.kind b.kind else ord a.strike b.strike
theorem toList_inj {s t : ByteArray} (h : s.toList = t.toList) : s = t := by
  rw [Go.ByteArray.toList_eq, Go.ByteArray.toList_eq] at h
  cases s; cases t
  simp only [ByteArray.mk.injEq]
  exact Array.toList_inj.1 h
theorem same_prod {a b : Ser} (h1 : less a b = false) (h2 : less b a = false) : a.prod = b.prod := by
  unfold less at h1 h2
  rcases OM.bl_tri a.prod.toList b.prod.toList with h | h | h
  · rw [h] at h1; cases h1
  · exact toList_inj h
  · rw [h] at h2; cases h2
theorem less_irrefl (a : Ser) : less a a = false := OM.bl_irrefl _
theorem less_asymm {a b : Ser} (h : less a b = true) : less b a = false := OM.bl_asymm h
theorem less_trans {a b c : Ser} (h1 : less a b = true) (h2 : less b c = true) : less a c = true := OM.bl_trans _ _ _ h1 h2
/-- a is ahead of b -/
def lt (a b : Ser) : Prop := less a b = true ∨ (a.prod = b.prod ∧ (a.expiry < b.expiry ∨ (a.expiry = b.expiry ∧ (a.kind < b.kind ∨ (a.kind = b.kind ∧ a.strike < b.strike)))))
theorem less_of_eq {a b c : Ser} (h : b.prod = c.prod) : less a b = less a c := by unfold less; rw [h]
theorem less_of_eq' {a b c : Ser} (h : a.prod = b.prod) : less a c = less b c := by unfold less; rw [h]
theorem less_eq_false {a b : Ser} (h : a.prod = b.prod) : less a b = false := by unfold less; rw [h]; exact OM.bl_irrefl _
theorem lt_irrefl (a : Ser) : ¬ lt a a := by
  unfold lt
  rw [less_irrefl]
  simp
theorem lt_trans {a b c : Ser} (h1 : lt a b) (h2 : lt b c) : lt a c := by
  unfold lt at *
  rcases h1 with h1 | ⟨e1, h1⟩
  · rcases h2 with h2 | ⟨e2, h2⟩
    · exact .inl (less_trans h1 h2)
    · left; rw [← less_of_eq e2]; exact h1
  · rcases h2 with h2 | ⟨e2, h2⟩
    · left; rw [less_of_eq' e1]; exact h2
    · right; exact ⟨e1.trans e2, by omega⟩
theorem lt_tri (a b : Ser) : lt a b ∨ a = b ∨ lt b a := by
  cases h1 : less a b
  · cases h2 : less b a
    · have e := same_prod h1 h2
      by_cases g1 : a.expiry = b.expiry
      · by_cases g2 : a.kind = b.kind
        · by_cases g3 : a.strike = b.strike
          · right; left
            cases a; cases b
            simp_all
          · rcases Int.lt_or_gt_of_ne g3 with g | g
            · exact .inl (.inr ⟨e, by omega⟩)
            · exact .inr (.inr (.inr ⟨e.symm, by omega⟩))
        · rcases Int.lt_or_gt_of_ne g2 with g | g
          · exact .inl (.inr ⟨e, by omega⟩)
          · exact .inr (.inr (.inr ⟨e.symm, by omega⟩))
      · rcases Int.lt_or_gt_of_ne g1 with g | g
        · exact .inl (.inr ⟨e, by omega⟩)
        · exact .inr (.inr (.inr ⟨e.symm, by omega⟩))
    · exact .inr (.inr (.inl h2))
  · exact .inl (.inl h1)
theorem lt_asymm {a b : Ser} (h : lt a b) : ¬ lt b a := fun g => lt_irrefl a (lt_trans h g)
theorem cmp_lt {a b : Ser} (h : lt a b) : cmp a b = -1 := by
  unfold cmp
  rcases h with h | ⟨e, h⟩
  · rw [if_pos h]
  · rw [if_neg (by rw [less_eq_false e]; simp), if_neg (by rw [less_eq_false e.symm]; simp)]
    by_cases g1 : a.expiry = b.expiry
    · rw [if_neg (by simp [g1])]
      by_cases g2 : a.kind = b.kind
      · rw [if_neg (by simp [g2])]
        unfold ord; rw [if_pos (by omega)]
      · rw [if_pos g2]; unfold ord; rw [if_pos (by omega)]
    · rw [if_pos g1]; unfold ord; rw [if_pos (by omega)]
theorem cmp_gt {a b : Ser} (h : lt b a) : cmp a b = 1 := by
  unfold cmp
  rcases h with h | ⟨e, h⟩
  · rw [if_neg (by rw [less_asymm h]; simp), if_pos h]
  · rw [if_neg (by rw [less_eq_false e.symm]; simp), if_neg (by rw [less_eq_false e]; simp)]
    by_cases g1 : a.expiry = b.expiry
    · rw [if_neg (by simp [g1])]
      by_cases g2 : a.kind = b.kind
      · rw [if_neg (by simp [g2])]
        unfold ord; rw [if_neg (by omega), if_pos (by omega)]
      · rw [if_pos g2]; unfold ord; rw [if_neg (by omega), if_pos (by omega)]
    · rw [if_pos g1]; unfold ord; rw [if_neg (by omega), if_pos (by omega)]
theorem cmp_self (a : Ser) : cmp a a = 0 := by
  unfold cmp
  rw [if_neg (by rw [less_irrefl]; simp), if_neg (by rw [less_irrefl]; simp), if_neg (by simp), if_neg (by simp)]
  unfold ord; simp
/-- which of the three -/
theorem cmp_cases (a b : Ser) : (cmp a b = -1 ∧ lt a b) ∨ (cmp a b = 0 ∧ a = b) ∨ (cmp a b = 1 ∧ lt b a) := by
  rcases lt_tri a b with h | rfl | h
  · exact .inl ⟨cmp_lt h, h⟩
  · exact .inr (.inl ⟨cmp_self a, rfl⟩)
  · exact .inr (.inr ⟨cmp_gt h, h⟩)
theorem cmp_zero {a b : Ser} : cmp a b = 0 ↔ a = b := by
  constructor
  · intro h
    rcases cmp_cases a b with ⟨g, _⟩ | ⟨_, g⟩ | ⟨g, _⟩
    · rw [g] at h; cases h
    · exact g
    · rw [g] at h; cases h
  · rintro rfl; exact cmp_self a
theorem cmp_neg {a b : Ser} : cmp a b = -1 ↔ lt a b := by
  constructor
  · intro h
    rcases cmp_cases a b with ⟨_, g⟩ | ⟨g, _⟩ | ⟨g, _⟩
    · exact g
    · rw [g] at h; cases h
    · rw [g] at h; cases h
  · exact cmp_lt
theorem cmp_anti (a b : Ser) : cmp b a = -cmp a b := by
  rcases cmp_cases a b with ⟨h, g⟩ | ⟨h, rfl⟩ | ⟨h, g⟩
  · rw [h, cmp_gt g]; rfl
  · rw [h]; rfl
  · rw [h, cmp_lt g]
theorem cmp_range (a b : Ser) : -1 ≤ cmp a b ∧ cmp a b ≤ 1 := by
  rcases cmp_cases a b with ⟨h, _⟩ | ⟨h, _⟩ | ⟨h, _⟩ <;> omega
/-- what is ahead of one that is ahead is ahead -/
theorem cmp_trans (a b c : Ser) : 0 < cmp a b ∨ 0 < cmp b c ∨ (cmp a c ≤ 0 ∧ (cmp a c < 0 ↔ (cmp a b < 0 ∨ cmp b c < 0))) := by
  rcases cmp_cases a b with ⟨h1, g1⟩ | ⟨h1, rfl⟩ | ⟨h1, g1⟩
  · rcases cmp_cases b c with ⟨h2, g2⟩ | ⟨h2, rfl⟩ | ⟨h2, g2⟩
    · right; right
      rw [cmp_lt (lt_trans g1 g2)]; omega
    · right; right; omega
    · right; left; omega
  · rcases cmp_cases a c with ⟨h2, g2⟩ | ⟨h2, rfl⟩ | ⟨h2, g2⟩
    · right; right; omega
    · right; right; omega
    · right; left; omega
  · left; omega

/-! sorted lists -/
def asc (l : List Ser) : Prop := l.Pairwise lt
/-- one more in its place, if it is not there -/
def put (s : Ser) : List Ser → List Ser
  | [] => [s]
  | x :: r => if cmp s x < 0 then s :: x :: r else if cmp s x = 0 then x :: r else x :: put s r
theorem put_mem (s : Ser) (l : List Ser) (y : Ser) : y ∈ put s l ↔ y = s ∨ y ∈ l := by
  induction l with
  | nil => simp [put]
  | cons x r ih =>
    unfold put
    by_cases h : cmp s x < 0
    · rw [if_pos h]; simp
    · rw [if_neg h]
      by_cases h0 : cmp s x = 0
      · rw [if_pos h0]
        have := cmp_zero.1 h0
        subst this
        simp
      · rw [if_neg h0, List.mem_cons, ih, List.mem_cons]
        constructor
        · rintro (h | h | h)
          · exact .inr (.inl h)
          · exact .inl h
          · exact .inr (.inr h)
        · rintro (h | h | h)
          · exact .inr (.inl h)
          · exact .inl h
          · exact .inr (.inr h)
theorem put_asc (s : Ser) {l : List Ser} (h : asc l) : asc (put s l) := by
  induction l with
  | nil => unfold put asc; simp
  | cons x r ih =>
    obtain ⟨h1, h2⟩ := List.pairwise_cons.1 h
    unfold put
    by_cases hc : cmp s x < 0
    · rw [if_pos hc]
      have hl : lt s x := cmp_neg.1 (by have := cmp_range s x; omega)
      refine List.pairwise_cons.2 ⟨fun y hy => ?_, h⟩
      rcases List.mem_cons.1 hy with rfl | hy
      · exact hl
      · exact lt_trans hl (h1 y hy)
    · rw [if_neg hc]
      by_cases h0 : cmp s x = 0
      · rw [if_pos h0]; exact h
      · rw [if_neg h0]
        refine List.pairwise_cons.2 ⟨fun y hy => ?_, ih h2⟩
        rcases (put_mem s r y).1 hy with rfl | hy
        · rcases cmp_cases y x with ⟨g, _⟩ | ⟨g, _⟩ | ⟨_, g⟩
          · omega
          · omega
          · exact g
        · exact h1 y hy
def sortL (l : List Ser) : List Ser := l.foldl (fun out s => put s out) []
theorem sort_snoc (l : List Ser) (s : Ser) : sortL (l ++ [s]) = put s (sortL l) := by simp [sortL]
theorem fold_asc (l : List Ser) : ∀ out, asc out → asc (l.foldl (fun out s => put s out) out) := by
  induction l with
  | nil => intro out h; exact h
  | cons s l ih => intro out h; exact ih _ (put_asc s h)
theorem fold_mem (l : List Ser) (y : Ser) : ∀ out, y ∈ l.foldl (fun out s => put s out) out ↔ y ∈ out ∨ y ∈ l := by
  induction l with
  | nil => intro out; simp
  | cons s l ih =>
    intro out
    rw [List.foldl_cons, ih, put_mem, List.mem_cons]
    constructor
    · rintro ((h | h) | h)
      · exact .inr (.inl h)
      · exact .inl h
      · exact .inr (.inr h)
    · rintro (h | h | h)
      · exact .inl (.inr h)
      · exact .inl (.inl h)
      · exact .inr h
theorem sort_asc (l : List Ser) : asc (sortL l) := fold_asc l [] List.Pairwise.nil
theorem sort_mem (l : List Ser) (y : Ser) : y ∈ sortL l ↔ y ∈ l := by
  unfold sortL; rw [fold_mem]; simp
/-- two that rise and hold the same are the same -/
theorem asc_unique : ∀ {l k : List Ser}, asc l → asc k → (∀ y, y ∈ l ↔ y ∈ k) → l = k := by
  intro l
  induction l with
  | nil =>
    intro k _ _ h
    cases k with
    | nil => rfl
    | cons y r => exact absurd ((h y).2 (by simp)) (by simp)
  | cons x r ih =>
    intro k hl hk h
    cases k with
    | nil => exact absurd ((h x).1 (by simp)) (by simp)
    | cons y s =>
      obtain ⟨l1, l2⟩ := List.pairwise_cons.1 hl
      obtain ⟨k1, k2⟩ := List.pairwise_cons.1 hk
      have e : x = y := by
        rcases List.mem_cons.1 ((h x).1 (by simp)) with g | g
        · exact g
        · rcases List.mem_cons.1 ((h y).2 (by simp)) with g' | g'
          · exact g'.symm
          · exact absurd (l1 y g') (lt_asymm (k1 x g))
      subst e
      congr 1
      refine ih l2 k2 fun z => ?_
      constructor
      · intro hz
        rcases List.mem_cons.1 ((h z).1 (List.mem_cons_of_mem _ hz)) with rfl | g
        · exact absurd (l1 z hz) (lt_irrefl z)
        · exact g
      · intro hz
        rcases List.mem_cons.1 ((h z).2 (List.mem_cons_of_mem _ hz)) with rfl | g
        · exact absurd (k1 z hz) (lt_irrefl z)
        · exact g
theorem sort_again (l : List Ser) : sortL (sortL l) = sortL l := asc_unique (sort_asc _) (sort_asc _) (fun y => sort_mem _ y)
theorem sort_of_asc {l k : List Ser} (h : asc k) (hm : ∀ y, y ∈ k ↔ y ∈ l) : k = sortL l := asc_unique h (sort_asc l) (fun y => by rw [hm, sort_mem])
theorem asc_at {l : List Ser} (h : asc l) {i : Nat} (h1 : 0 < i) (h2 : i < l.length) : lt l[i - 1] l[i] := List.pairwise_iff_getElem.1 h (i - 1) i (by omega) h2 (by omega)
end EM

/- Layer 11's mathematics: members and their accounts. -/
namespace MM
open Go
set_option linter.unusedSimpArgs false
structure Ac where
  name : ByteArray
  kind : Int
structure Mem where
  name : ByteArray
  status : Int
  accs : List Ac
def nil : ByteArray := ⟨#[]⟩
def okN (s : ByteArray) : Bool := WM.name s.data.toList
def lt (s t : ByteArray) : Bool := Op.bytesLess s.toList t.toList
def eq (s t : ByteArray) : Bool := s.toList == t.toList
def le (s t : ByteArray) : Bool := lt s t || eq s t
theorem eq_iff {s t : ByteArray} : eq s t = true ↔ s = t := by
  unfold eq
  constructor
  · intro h; exact EM.toList_inj (by simpa using h)
  · rintro rfl; simp
theorem eq_false {s t : ByteArray} : eq s t = false ↔ s ≠ t := by rw [Bool.eq_false_iff, ne_eq, eq_iff]
theorem lt_tri (s t : ByteArray) : lt s t = true ∨ s = t ∨ lt t s = true := by
  rcases OM.bl_tri s.toList t.toList with h | h | h
  · exact .inl h
  · exact .inr (.inl (EM.toList_inj h))
  · exact .inr (.inr h)
theorem lt_irrefl (s : ByteArray) : lt s s = false := OM.bl_irrefl _
theorem lt_trans {s t u : ByteArray} (h1 : lt s t = true) (h2 : lt t u = true) : lt s u = true := OM.bl_trans _ _ _ h1 h2
theorem lt_asymm {s t : ByteArray} (h : lt s t = true) : lt t s = false := OM.bl_asymm h
theorem lt_of_le {s t : ByteArray} (h : le s t = false) : lt t s = true := by
  unfold le at h
  rw [Bool.or_eq_false_iff] at h
  rcases lt_tri s t with g | g | g
  · rw [h.1] at g; cases g
  · rw [eq_iff.2 g] at h; cases h.2
  · exact g
theorem le_of_lt {s t : ByteArray} (h : lt t s = true) : le s t = false := by
  unfold le
  rw [lt_asymm h]
  have : eq s t = false := eq_false.2 (by rintro rfl; rw [lt_irrefl] at h; cases h)
  rw [this]; rfl
theorem gt_eq (s t : ByteArray) : (!Op.bytesLess s.toList t.toList && !(s.toList == t.toList)) = lt t s := by
  have e : (!Op.bytesLess s.toList t.toList && !(s.toList == t.toList)) = !(le s t) := by unfold le lt eq; rw [Bool.not_or]
  rw [e]
  cases h : le s t
  · rw [lt_of_le h]; rfl
  · cases g : lt t s
    · rfl
    · rw [le_of_lt g] at h; cases h
theorem lt_ne {s t : ByteArray} (h : lt s t = true) : eq s t = false ∧ eq t s = false := by
  refine ⟨eq_false.2 ?_, eq_false.2 ?_⟩ <;> (rintro rfl; rw [lt_irrefl] at h; cases h)
theorem ok_le {s : ByteArray} (h : okN s = true) : le s nil = false := by
  apply le_of_lt
  rcases lt_tri nil s with g | g | g
  · exact g
  · subst g; revert h; decide
  · unfold lt at g
    rw [Go.ByteArray.toList_eq nil] at g
    cases e : s.toList <;> simp [nil, e, Op.bytesLess] at g

def kindOk (k : Int) : Bool := decide (1 ≤ k) && decide (k ≤ 3)
def statOk (k : Int) : Bool := decide (1 ≤ k) && decide (k ≤ 4)
def accE : ByteArray → List Ac → Int
  | _, [] => 0
  | p, a :: r => if okN a.name = false then 10 else if le a.name p = true then 12 else if kindOk a.kind = false then 21 else accE a.name r
def memE : ByteArray → List Mem → Int
  | _, [] => 0
  | p, m :: r => if okN m.name = false then 10 else if le m.name p = true then 12 else if statOk m.status = false then 13 else if 16 < m.accs.length then 8 else if accE nil m.accs ≠ 0 then accE nil m.accs else memE m.name r
def checkE (l : List Mem) : Int := if 32 < l.length then 8 else memE nil l
theorem acc_name {p : ByteArray} {a : Ac} {r : List Ac} (h : okN a.name = false) : accE p (a :: r) = 10 := by simp [accE, h]
theorem acc_le {p : ByteArray} {a : Ac} {r : List Ac} (h : okN a.name = true) (h2 : le a.name p = true) : accE p (a :: r) = 12 := by simp [accE, h, h2]
theorem acc_kind {p : ByteArray} {a : Ac} {r : List Ac} (h : okN a.name = true) (h2 : le a.name p = false) (h3 : kindOk a.kind = false) : accE p (a :: r) = 21 := by simp [accE, h, h2, h3]
theorem acc_next {p : ByteArray} {a : Ac} {r : List Ac} (h : okN a.name = true) (h2 : le a.name p = false) (h3 : kindOk a.kind = true) : accE p (a :: r) = accE a.name r := by simp [accE, h, h2, h3]
theorem mem_name {p : ByteArray} {m : Mem} {r : List Mem} (h : okN m.name = false) : memE p (m :: r) = 10 := by simp [memE, h]
theorem mem_le {p : ByteArray} {m : Mem} {r : List Mem} (h : okN m.name = true) (h2 : le m.name p = true) : memE p (m :: r) = 12 := by simp [memE, h, h2]
theorem mem_stat {p : ByteArray} {m : Mem} {r : List Mem} (h : okN m.name = true) (h2 : le m.name p = false) (h3 : statOk m.status = false) : memE p (m :: r) = 13 := by simp [memE, h, h2, h3]
theorem mem_long {p : ByteArray} {m : Mem} {r : List Mem} (h : okN m.name = true) (h2 : le m.name p = false) (h3 : statOk m.status = true) (h4 : 16 < m.accs.length) : memE p (m :: r) = 8 := by simp [memE, h, h2, h3, h4]
theorem mem_accs {p : ByteArray} {m : Mem} {r : List Mem} (h : okN m.name = true) (h2 : le m.name p = false) (h3 : statOk m.status = true) (h4 : ¬ 16 < m.accs.length) (h5 : accE nil m.accs ≠ 0) : memE p (m :: r) = accE nil m.accs := by simp [memE, h, h2, h3, h4, h5]
theorem mem_next {p : ByteArray} {m : Mem} {r : List Mem} (h : okN m.name = true) (h2 : le m.name p = false) (h3 : statOk m.status = true) (h4 : ¬ 16 < m.accs.length) (h5 : accE nil m.accs = 0) : memE p (m :: r) = memE m.name r := by simp [memE, h, h2, h3, h4, h5]
theorem acc_ok {p : ByteArray} {a : Ac} {r : List Ac} (h : accE p (a :: r) = 0) : okN a.name = true ∧ le a.name p = false ∧ kindOk a.kind = true ∧ accE a.name r = 0 := by
  unfold accE at h
  split at h
  · omega
  split at h
  · omega
  split at h
  · omega
  · simp_all
theorem mem_ok {p : ByteArray} {m : Mem} {r : List Mem} (h : memE p (m :: r) = 0) : okN m.name = true ∧ le m.name p = false ∧ statOk m.status = true ∧ ¬ 16 < m.accs.length ∧ accE nil m.accs = 0 ∧ memE m.name r = 0 := by
  unfold memE at h
  split at h
  · omega
  split at h
  · omega
  split at h
  · omega
  split at h
  · omega
  split at h
  · omega
  · simp_all

/-- x ahead of the first that p says yes to, at the end if there is none -/
def ins {α : Type} (p : α → Bool) (x : α) : List α → List α
  | [] => [x]
  | a :: r => if p a = true then x :: a :: r else a :: ins p x r
theorem ins_len {α : Type} (p : α → Bool) (x : α) (l : List α) : (ins p x l).length = l.length + 1 := by
  induction l with
  | nil => rfl
  | cons a r ih => unfold ins; split <;> simp [ih]
theorem ins_mem {α : Type} (p : α → Bool) (x y : α) (l : List α) : y ∈ ins p x l ↔ y = x ∨ y ∈ l := by
  induction l with
  | nil => simp [ins]
  | cons a r ih =>
    unfold ins
    split
    · simp
    · simp only [List.mem_cons, ih]
      constructor
      · rintro (h | h | h)
        · exact .inr (.inl h)
        · exact .inl h
        · exact .inr (.inr h)
      · rintro (h | h | h)
        · exact .inr (.inl h)
        · exact .inl h
        · exact .inr (.inr h)
/-- where: the first that p says yes to, else the end -/
def at_ {α : Type} (p : α → Bool) (l : List α) : Nat := (l.findIdx? p).getD l.length
theorem at_le {α : Type} (p : α → Bool) (l : List α) : at_ p l ≤ l.length := by
  unfold at_
  cases h : l.findIdx? p with
  | none => simp
  | some i =>
    have := (List.findIdx?_eq_some_iff_getElem.1 h).1
    simp; omega
theorem ins_at {α : Type} (p : α → Bool) (x : α) (l : List α) : ins p x l = l.take (at_ p l) ++ x :: l.drop (at_ p l) := by
  induction l with
  | nil => simp [ins, at_]
  | cons a r ih =>
    unfold ins
    cases h : p a
    · have e : at_ p (a :: r) = at_ p r + 1 := by
        unfold at_
        rw [List.findIdx?_cons, h]
        cases r.findIdx? p <;> simp
      rw [e]
      simp [ih]
    · have e : at_ p (a :: r) = 0 := by
        unfold at_
        rw [List.findIdx?_cons, h]
        simp
      rw [e]
      simp
theorem find_some {α : Type} {p : α → Bool} {l : List α} {k : Nat} (hk : k < l.length) (hj : ∀ j (h : j < l.length), j < k → p l[j] = false) (h : p l[k] = true) : l.findIdx? p = some k := by
  rw [List.findIdx?_eq_some_iff_getElem]
  refine ⟨hk, h, fun j hji => ?_⟩
  rw [hj j (by omega) hji]; decide
theorem find_none {α : Type} {p : α → Bool} {l : List α} (h : ∀ j (h : j < l.length), p l[j] = false) : l.findIdx? p = none := by
  rw [List.findIdx?_eq_none_iff]
  intro x hx
  obtain ⟨j, hj, rfl⟩ := List.mem_iff_getElem.1 hx
  exact h j hj

def pl (l : List Mem) (n : ByteArray) : Option Nat := l.findIdx? (fun m => eq m.name n)
def pa (l : List Ac) (n : ByteArray) : Option Nat := l.findIdx? (fun a => eq a.name n)
theorem pl_some {l : List Mem} {n : ByteArray} {i : Nat} (h : pl l n = some i) : ∃ hi : i < l.length, l[i].name = n := by
  obtain ⟨h1, h2, _⟩ := List.findIdx?_eq_some_iff_getElem.1 h
  exact ⟨h1, eq_iff.1 h2⟩
theorem pa_some {l : List Ac} {n : ByteArray} {i : Nat} (h : pa l n = some i) : ∃ hi : i < l.length, l[i].name = n := by
  obtain ⟨h1, h2, _⟩ := List.findIdx?_eq_some_iff_getElem.1 h
  exact ⟨h1, eq_iff.1 h2⟩
theorem pl_none {l : List Mem} {n : ByteArray} (h : pl l n = none) : ∀ m ∈ l, eq m.name n = false := List.findIdx?_eq_none_iff.1 h
theorem pa_none {l : List Ac} {n : ByteArray} (h : pa l n = none) : ∀ a ∈ l, eq a.name n = false := List.findIdx?_eq_none_iff.1 h

def insM (n : ByteArray) (l : List Mem) : List Mem := ins (fun m => lt n m.name) ⟨n, 1, []⟩ l
def insA (a : Ac) (l : List Ac) : List Ac := ins (fun b => lt a.name b.name) a l
def addE (l : List Mem) (n : ByteArray) : Int :=
  if checkE l ≠ 0 then checkE l else if okN n = false then 10 else if (pl l n).isSome = true then 12 else if 32 ≤ l.length then 8 else 0
def addL (l : List Mem) (n : ByteArray) : List Mem := if addE l n = 0 then insM n l else []
def mAt (l : List Mem) (i : Nat) : Mem := l.getD i ⟨nil, 0, []⟩
theorem mAt_get {l : List Mem} {i : Nat} (h : i < l.length) : mAt l i = l[i] := by simp [mAt, List.getD, h]
/-- the error of one more account among a member's -/
def opE (l : List Ac) (n : ByteArray) (kind : Int) : Int :=
  if okN n = false then 10 else if kindOk kind = false then 21 else if (pa l n).isSome = true then 12 else if 16 ≤ l.length then 8 else 0
def openE (l : List Mem) (n a : ByteArray) (kind : Int) : Int :=
  if checkE l ≠ 0 then checkE l else match pl l n with
    | none => 20
    | some i => if (mAt l i).status ≠ 1 then 20 else opE (mAt l i).accs a kind
def openL (l : List Mem) (n a : ByteArray) (kind : Int) : List Mem :=
  if openE l n a kind = 0 then match pl l n with
    | none => []
    | some i => l.set i { mAt l i with accs := insA ⟨a, kind⟩ (mAt l i).accs }
  else []
def leads (f t : Int) : Bool := if f = 1 then (t == 2 || t == 3 || t == 4) else if f = 2 then (t == 1 || t == 3) else false
def statE (l : List Mem) (n : ByteArray) (s : Int) : Int :=
  if checkE l ≠ 0 then checkE l else match pl l n with
    | none => 20
    | some i => if leads (mAt l i).status s = true then 0 else 13
def statL (l : List Mem) (n : ByteArray) (s : Int) : List Mem :=
  if statE l n s = 0 then match pl l n with
    | none => []
    | some i => l.set i { mAt l i with status := s }
  else []
def allows (s act : Int) : Bool := if s = 1 then true else if s = 2 then (act != 1 && act != 3) else if s = 3 then (decide (4 ≤ act) && decide (act ≤ 8)) else false
def mayE (l : List Mem) (n a : ByteArray) (act : Int) : Int :=
  match pl l n with
    | none => 20
    | some i => match pa (mAt l i).accs a with
      | none => 21
      | some _ => if allows (mAt l i).status act = true then 0 else 13
def accsL (l : List Mem) : List (ByteArray × ByteArray) := l.flatMap fun m => m.accs.map fun a => (m.name, a.name)

theorem acc_asc : ∀ {p : ByteArray} {l : List Ac}, accE p l = 0 → (∀ a ∈ l, lt p a.name = true) ∧ l.Pairwise (fun a b => lt a.name b.name = true) := by
  intro p l
  induction l generalizing p with
  | nil => intro _; simp
  | cons a r ih =>
    intro h
    obtain ⟨_, h2, _, h4⟩ := acc_ok h
    obtain ⟨g1, g2⟩ := ih h4
    have hp := lt_of_le h2
    refine ⟨?_, List.pairwise_cons.2 ⟨g1, g2⟩⟩
    intro b hb
    rcases List.mem_cons.1 hb with rfl | hb
    · exact hp
    · exact lt_trans hp (g1 b hb)
theorem mem_asc : ∀ {p : ByteArray} {l : List Mem}, memE p l = 0 → (∀ a ∈ l, lt p a.name = true) ∧ l.Pairwise (fun a b => lt a.name b.name = true) := by
  intro p l
  induction l generalizing p with
  | nil => intro _; simp
  | cons a r ih =>
    intro h
    obtain ⟨_, h2, _, _, _, h4⟩ := mem_ok h
    obtain ⟨g1, g2⟩ := ih h4
    have hp := lt_of_le h2
    refine ⟨?_, List.pairwise_cons.2 ⟨g1, g2⟩⟩
    intro b hb
    rcases List.mem_cons.1 hb with rfl | hb
    · exact hp
    · exact lt_trans hp (g1 b hb)
/-- in a list that may be, a member is found by its name -/
theorem find_mem {p : ByteArray} {l : List Mem} (h : memE p l = 0) {m : Mem} (hm : m ∈ l) : ∃ i, pl l m.name = some i ∧ ∃ hi : i < l.length, l[i] = m := by
  obtain ⟨i, hi, rfl⟩ := List.mem_iff_getElem.1 hm
  refine ⟨i, find_some hi ?_ (eq_iff.2 rfl), hi, rfl⟩
  intro j hj hji
  exact (lt_ne (List.pairwise_iff_getElem.1 (mem_asc h).2 j i hj hi hji)).1
theorem acc_ins {a : Ac} : ∀ {p : ByteArray} {l : List Ac}, accE p l = 0 → okN a.name = true → le a.name p = false → kindOk a.kind = true → (∀ b ∈ l, eq b.name a.name = false) → accE p (insA a l) = 0 := by
  intro p l
  induction l generalizing p with
  | nil => intro _ h1 h2 h3 _; exact acc_next h1 h2 h3
  | cons b r ih =>
    intro h h1 h2 h3 h4
    obtain ⟨g1, g2, g3, g4⟩ := acc_ok h
    unfold insA ins
    cases e : lt a.name b.name
    · rw [if_neg (by simp), acc_next g1 g2 g3]
      refine ih g4 h1 ?_ h3 (fun c hc => h4 c (List.mem_cons_of_mem _ hc))
      apply le_of_lt
      rcases lt_tri a.name b.name with g | g | g
      · rw [e] at g; cases g
      · have := h4 b (by simp)
        rw [← g] at this
        exact absurd rfl (eq_false.1 this)
      · exact g
    · rw [if_pos rfl, acc_next h1 h2 h3, acc_next g1 (le_of_lt e) g3]
      exact g4
theorem mem_ins {n : ByteArray} : ∀ {p : ByteArray} {l : List Mem}, memE p l = 0 → okN n = true → le n p = false → (∀ b ∈ l, eq b.name n = false) → memE p (insM n l) = 0 := by
  intro p l
  induction l generalizing p with
  | nil => intro _ h1 h2 _; exact mem_next (m := ⟨n, 1, []⟩) h1 h2 rfl (by simp) rfl
  | cons b r ih =>
    intro h h1 h2 h4
    obtain ⟨g1, g2, g3, g4, g5, g6⟩ := mem_ok h
    unfold insM ins
    cases e : lt n b.name
    · rw [if_neg (by simp), mem_next g1 g2 g3 g4 g5]
      refine ih g6 h1 ?_ (fun c hc => h4 c (List.mem_cons_of_mem _ hc))
      apply le_of_lt
      rcases lt_tri n b.name with g | g | g
      · rw [e] at g; cases g
      · have := h4 b (by simp)
        rw [← g] at this
        exact absurd rfl (eq_false.1 this)
      · exact g
    · rw [if_pos rfl, mem_next (m := ⟨n, 1, []⟩) h1 h2 rfl (by simp) rfl, mem_next g1 (le_of_lt e) g3 g4 g5]
      exact g6
theorem mem_set {m' : Mem} : ∀ {p : ByteArray} {l : List Mem} {i : Nat} (hi : i < l.length), memE p l = 0 → m'.name = l[i].name → statOk m'.status = true → ¬ 16 < m'.accs.length → accE nil m'.accs = 0 → memE p (l.set i m') = 0 := by
  intro p l
  induction l generalizing p with
  | nil => intro i hi; simp at hi
  | cons b r ih =>
    intro i hi h hn h1 h2 h3
    obtain ⟨g1, g2, g3, g4, g5, g6⟩ := mem_ok h
    cases i with
    | zero =>
      simp only [List.getElem_cons_zero] at hn
      rw [List.set_cons_zero, mem_next (by rw [hn]; exact g1) (by rw [hn]; exact g2) h1 h2 h3, hn]
      exact g6
    | succ i =>
      rw [List.set_cons_succ, mem_next g1 g2 g3 g4 g5]
      exact ih (i := i) (by simpa using hi) g6 (by simpa using hn) h1 h2 h3
theorem mem_at : ∀ {p : ByteArray} {l : List Mem} {i : Nat} (hi : i < l.length), memE p l = 0 → okN l[i].name = true ∧ statOk l[i].status = true ∧ ¬ 16 < l[i].accs.length ∧ accE nil l[i].accs = 0 := by
  intro p l
  induction l generalizing p with
  | nil => intro i hi; simp at hi
  | cons b r ih =>
    intro i hi h
    obtain ⟨g1, g2, g3, g4, g5, g6⟩ := mem_ok h
    cases i with
    | zero => exact ⟨g1, g3, g4, g5⟩
    | succ i => exact ih (i := i) (by simpa using hi) g6
theorem check_mem {l : List Mem} (h : checkE l = 0) : l.length ≤ 32 ∧ memE nil l = 0 := by
  unfold checkE at h
  split at h
  · omega
  · exact ⟨by omega, h⟩
theorem mem_check {l : List Mem} (h1 : l.length ≤ 32) (h : memE nil l = 0) : checkE l = 0 := by
  unfold checkE
  rw [if_neg (by omega)]; exact h
theorem add_ok {l : List Mem} {n : ByteArray} (h : addE l n = 0) : checkE l = 0 ∧ okN n = true ∧ pl l n = none ∧ l.length < 32 := by
  unfold addE at h
  split at h
  · omega
  split at h
  · omega
  split at h
  · omega
  split at h
  · omega
  · simp_all
theorem add_check {l : List Mem} {n : ByteArray} (h : addE l n = 0) : checkE (addL l n) = 0 := by
  obtain ⟨h1, h2, h3, h4⟩ := add_ok h
  unfold addL
  rw [if_pos h]
  refine mem_check (by unfold insM; rw [ins_len]; omega) (mem_ins (check_mem h1).2 h2 (ok_le h2) (pl_none h3))
theorem op_ok {l : List Ac} {n : ByteArray} {k : Int} (h : opE l n k = 0) : okN n = true ∧ kindOk k = true ∧ pa l n = none ∧ l.length < 16 := by
  unfold opE at h
  split at h
  · omega
  split at h
  · omega
  split at h
  · omega
  split at h
  · omega
  · simp_all
theorem open_ok {l : List Mem} {n a : ByteArray} {k : Int} (h : openE l n a k = 0) : checkE l = 0 ∧ ∃ i, pl l n = some i ∧ i < l.length ∧ (mAt l i).status = 1 ∧ opE (mAt l i).accs a k = 0 := by
  unfold openE at h
  split at h
  · omega
  rename_i hc
  split at h
  · omega
  rename_i i hi
  split at h
  · omega
  · exact ⟨by simpa using hc, i, hi, (pl_some hi).1, by simp_all, h⟩
theorem open_list {l : List Mem} {n a : ByteArray} {k : Int} {i : Nat} (h : openE l n a k = 0) (hi : pl l n = some i) : openL l n a k = l.set i { mAt l i with accs := insA ⟨a, k⟩ (mAt l i).accs } := by
  unfold openL
  rw [if_pos h, hi]
theorem open_check {l : List Mem} {n a : ByteArray} {k : Int} (h : openE l n a k = 0) : checkE (openL l n a k) = 0 := by
  obtain ⟨h1, i, h2, h3, h4, h5⟩ := open_ok h
  obtain ⟨h6, h7, h8, h9⟩ := op_ok h5
  obtain ⟨c1, c2⟩ := check_mem h1
  obtain ⟨m1, m2, m3, m4⟩ := mem_at h3 c2
  rw [open_list h h2]
  rw [mAt_get h3] at *
  exact mem_check (by simpa using c1) (mem_set h3 c2 rfl m2 (by show ¬ 16 < (insA _ _).length; unfold insA; rw [ins_len]; omega) (acc_ins m4 h6 (ok_le h6) h7 (pa_none h8)))
theorem stat_ok {l : List Mem} {n : ByteArray} {s : Int} (h : statE l n s = 0) : checkE l = 0 ∧ ∃ i, pl l n = some i ∧ i < l.length ∧ leads (mAt l i).status s = true := by
  unfold statE at h
  split at h
  · omega
  rename_i hc
  split at h
  · omega
  rename_i i hi
  split at h
  · rename_i hl
    exact ⟨by simpa using hc, i, hi, (pl_some hi).1, hl⟩
  · omega
theorem stat_list {l : List Mem} {n : ByteArray} {s : Int} {i : Nat} (h : statE l n s = 0) (hi : pl l n = some i) : statL l n s = l.set i { mAt l i with status := s } := by
  unfold statL
  rw [if_pos h, hi]
theorem leads_ok {f t : Int} (h : leads f t = true) : statOk t = true ∧ f < 3 := by
  unfold leads at h
  split at h
  · simp only [Bool.or_eq_true, beq_iff_eq] at h
    unfold statOk
    simp only [Bool.and_eq_true, decide_eq_true_eq]
    omega
  split at h
  · simp only [Bool.or_eq_true, beq_iff_eq] at h
    unfold statOk
    simp only [Bool.and_eq_true, decide_eq_true_eq]
    omega
  · cases h
theorem stat_check {l : List Mem} {n : ByteArray} {s : Int} (h : statE l n s = 0) : checkE (statL l n s) = 0 := by
  obtain ⟨h1, i, h2, h3, h4⟩ := stat_ok h
  obtain ⟨c1, c2⟩ := check_mem h1
  obtain ⟨m1, m2, m3, m4⟩ := mem_at h3 c2
  rw [stat_list h h2]
  rw [mAt_get h3] at *
  exact mem_check (by simpa using c1) (mem_set h3 c2 rfl (leads_ok h4).1 m3 m4)
/-- what a turn makes of a list, and what stays -/
def Kept (l l' : List Mem) (n : ByteArray) : Prop := checkE l' = 0 ∧ ∀ k (hk : k < l.length), ∃ i, pl l' l[k].name = some i ∧ ∃ hi : i < l'.length, (l'[i] = l[k] ∨ (l[k].name = n ∧ (3 ≤ l[k].status → l'[i].status = l[k].status) ∧ l[k].accs.length ≤ l'[i].accs.length))
theorem kept_add {l : List Mem} {n : ByteArray} (h : addE l n = 0) : Kept l (addL l n) n := by
  have hc := add_check h
  refine ⟨hc, fun k hk => ?_⟩
  have hm : l[k] ∈ addL l n := by
    unfold addL; rw [if_pos h]
    exact (ins_mem _ _ _ _).2 (.inr (List.getElem_mem hk))
  obtain ⟨i, h1, hi, h2⟩ := find_mem (check_mem hc).2 hm
  exact ⟨i, h1, hi, .inl h2⟩
theorem kept_set {l : List Mem} {n : ByteArray} {i : Nat} {m' : Mem} (hi : i < l.length) (hp : pl l n = some i) (hn : m'.name = l[i].name) (hs : 3 ≤ l[i].status → m'.status = l[i].status) (ha : l[i].accs.length ≤ m'.accs.length) (hc : checkE (l.set i m') = 0) : Kept l (l.set i m') n := by
  refine ⟨hc, fun k hk => ?_⟩
  by_cases e : k = i
  · subst e
    have hm : m' ∈ l.set k m' := List.mem_iff_getElem.2 ⟨k, by simpa using hk, by simp⟩
    obtain ⟨i', h1, hi', h2⟩ := find_mem (check_mem hc).2 hm
    rw [hn] at h1
    exact ⟨i', h1, hi', .inr ⟨(pl_some hp).2, by rw [h2]; exact hs, by rw [h2]; exact ha⟩⟩
  · have hm : l[k] ∈ l.set i m' := List.mem_iff_getElem.2 ⟨k, by simpa using hk, by rw [List.getElem_set]; rw [if_neg (fun h => e h.symm)]⟩
    obtain ⟨i', h1, hi', h2⟩ := find_mem (check_mem hc).2 hm
    exact ⟨i', h1, hi', .inl h2⟩
theorem kept_open {l : List Mem} {n a : ByteArray} {k : Int} (h : openE l n a k = 0) : Kept l (openL l n a k) n := by
  have hc := open_check h
  obtain ⟨h1, i, h2, h3, h4, h5⟩ := open_ok h
  rw [open_list h h2] at hc ⊢
  rw [mAt_get h3] at *
  exact kept_set h3 h2 rfl (fun _ => rfl) (by show _ ≤ (insA _ _).length; unfold insA; rw [ins_len]; omega) hc
theorem kept_stat {l : List Mem} {n : ByteArray} {s : Int} (h : statE l n s = 0) : Kept l (statL l n s) n := by
  have hc := stat_check h
  obtain ⟨h1, i, h2, h3, h4⟩ := stat_ok h
  rw [stat_list h h2] at hc ⊢
  rw [mAt_get h3] at *
  exact kept_set h3 h2 rfl (fun g => by have := (leads_ok h4).2; omega) (Nat.le_refl _) hc
end MM
namespace MM
theorem mem_one (p : ByteArray) (m : Mem) (r : List Mem) : memE p (m :: r) = if memE p [m] ≠ 0 then memE p [m] else memE m.name r := by
  by_cases h1 : okN m.name = false
  · rw [mem_name h1, mem_name h1]; rfl
  have h1' : okN m.name = true := by simpa using h1
  by_cases h2 : le m.name p = true
  · rw [mem_le h1' h2, mem_le h1' h2]; rfl
  have h2' : le m.name p = false := by simpa using h2
  by_cases h3 : statOk m.status = false
  · rw [mem_stat h1' h2' h3, mem_stat h1' h2' h3]; rfl
  have h3' : statOk m.status = true := by simpa using h3
  by_cases h4 : 16 < m.accs.length
  · rw [mem_long h1' h2' h3' h4, mem_long h1' h2' h3' h4]; rfl
  by_cases h5 : accE nil m.accs = 0
  · rw [mem_next h1' h2' h3' h4 h5, mem_next h1' h2' h3' h4 h5]; rfl
  · rw [mem_accs h1' h2' h3' h4 h5, mem_accs h1' h2' h3' h4 h5, if_pos h5]
theorem one_accs {p : ByteArray} {m : Mem} (h : okN m.name = true) (h2 : le m.name p = false) (h3 : statOk m.status = true) (h4 : ¬ 16 < m.accs.length) : memE p [m] = accE nil m.accs := by
  by_cases h5 : accE nil m.accs = 0
  · rw [mem_next h h2 h3 h4 h5, h5]; rfl
  · rw [mem_accs h h2 h3 h4 h5]
end MM

/- Layer 12's mathematics: lists of trades. -/
namespace TM
structure Trd where
  id : Int
  day : Int
  time : Int
  ser : EM.Ser
  qty : Int
  price : Int
  bm : ByteArray
  bn : ByteArray
  sm : ByteArray
  sn : ByteArray
def zero : Trd := ⟨0, 0, 0, EM.zero, 0, 0, MM.nil, MM.nil, MM.nil, MM.nil⟩
def tAt (l : List Trd) (k : Nat) : Trd := l.getD k zero
theorem tAt_get {l : List Trd} {k : Nat} (h : k < l.length) : tAt l k = l[k] := by simp [tAt, List.getD, h]
def pt (l : List Trd) (id : Int) : Option Nat := l.findIdx? (fun t => t.id == id)
theorem pt_some {l : List Trd} {id : Int} {i : Nat} (h : pt l id = some i) : ∃ hi : i < l.length, l[i].id = id := by
  obtain ⟨h1, h2, _⟩ := List.findIdx?_eq_some_iff_getElem.1 h
  exact ⟨h1, by simpa using h2⟩
theorem pt_none {l : List Trd} {id : Int} (h : pt l id = none) : ∀ t ∈ l, (t.id == id) = false := List.findIdx?_eq_none_iff.1 h
def insT (t : Trd) (l : List Trd) : List Trd := MM.ins (fun o => decide (t.id < o.id)) t l
def addE (l : List Trd) (t : Trd) : Int := if 1024 ≤ l.length then 8 else if (pt l t.id).isSome = true then 12 else 0
def addL (l : List Trd) (t : Trd) : List Trd := if addE l t = 0 then insT t l else []
def bustE (l : List Trd) (id : Int) : Int := if (pt l id).isSome = true then 0 else 22
def bustL (l : List Trd) (id : Int) : List Trd := match pt l id with
  | none => []
  | some i => l.take i ++ l.drop (i + 1)
def findT (l : List Trd) (id : Int) : Trd := match pt l id with
  | none => zero
  | some i => tAt l i
theorem add_ok {l : List Trd} {t : Trd} (h : addE l t = 0) : l.length < 1024 ∧ pt l t.id = none := by
  unfold addE at h
  split at h
  · omega
  split at h
  · omega
  · simp_all
/-- where a trade was put it is found, and busting it gives the list back -/
theorem add_back {l : List Trd} {t : Trd} (h : addE l t = 0) : findT (addL l t) t.id = t ∧ (pt (addL l t) t.id).isSome = true ∧ bustL (addL l t) t.id = l ∧ (addL l t).length = l.length + 1 := by
  obtain ⟨_, h2⟩ := add_ok h
  have e : addL l t = insT t l := by unfold addL; rw [if_pos h]
  have hat := MM.at_le (fun o : Trd => decide (t.id < o.id)) l
  have ei : insT t l = l.take (MM.at_ (fun o => decide (t.id < o.id)) l) ++ t :: l.drop (MM.at_ (fun o => decide (t.id < o.id)) l) := MM.ins_at _ _ _
  have hlen : (insT t l).length = l.length + 1 := MM.ins_len _ _ _
  rw [e]
  generalize MM.at_ (fun o : Trd => decide (t.id < o.id)) l = i at *
  have ht : (l.take i).length = i := by rw [List.length_take]; omega
  have hg : ∀ hi : i < (insT t l).length, (insT t l)[i] = t := by
    intro hi
    simp only [ei]
    rw [List.getElem_append_right (by omega)]
    simp [ht]
  have hp : pt (insT t l) t.id = some i := by
    refine MM.find_some (by omega) ?_ (by rw [hg]; simp)
    intro j hj hji
    have : (insT t l)[j] = l[j]'(by omega) := by
      simp only [ei]
      rw [List.getElem_append_left (by omega)]
      simp
    rw [this]
    exact pt_none h2 _ (List.getElem_mem _)
  refine ⟨?_, by rw [hp]; rfl, ?_, hlen⟩
  · unfold findT
    rw [hp]
    show tAt _ i = t
    rw [tAt_get (by omega)]
    exact hg _
  · unfold bustL
    rw [hp]
    show (insT t l).take i ++ (insT t l).drop (i + 1) = l
    rw [ei, List.take_append, List.drop_append, ht]
    simp [List.take_take, List.drop_eq_nil_of_le, ht]
def isAcc (m n : ByteArray) (t : Trd) : Bool := (MM.eq t.bm m && MM.eq t.bn n) || (MM.eq t.sm m && MM.eq t.sn n)
def ofL (l : List Trd) (m n : ByteArray) : List Trd := l.filter (isAcc m n)
def sameS (x y : EM.Ser) : Bool := (x.prod.toList == y.prod.toList) && ((x.kind == y.kind) && ((x.expiry == y.expiry) && (x.strike == y.strike)))
def lotOf (s : EM.Ser) (t : Trd) : Int := if (sameS t.ser s && (decide (1 ≤ t.qty) && decide (t.qty ≤ 1048576))) = true then t.qty else 0
def vol (s : EM.Ser) : List Trd → Int
  | [] => 0
  | t :: r => lotOf s t + vol s r
def volume (l : List Trd) (s : EM.Ser) : Int := vol s (l.take 1024)
theorem lot_range (s : EM.Ser) (t : Trd) : 0 ≤ lotOf s t ∧ lotOf s t ≤ 1048576 := by
  unfold lotOf
  split
  · next h =>
    simp only [Bool.and_eq_true, decide_eq_true_eq] at h
    omega
  · omega
theorem vol_range (s : EM.Ser) (l : List Trd) : 0 ≤ vol s l ∧ vol s l ≤ 1048576 * l.length := by
  induction l with
  | nil => simp [vol]
  | cons t r ih =>
    have := lot_range s t
    unfold vol
    rw [List.length_cons]
    omega
theorem vol_snoc (s : EM.Ser) (l : List Trd) (t : Trd) : vol s (l ++ [t]) = vol s l + lotOf s t := by
  induction l with
  | nil => simp [vol]
  | cons a r ih => simp only [List.cons_append, vol, ih]; omega
end TM

/- Plain mathematics of layer 1: no Go in sight. -/
namespace CM

/-- 2^60 -/
def M : Int := 1152921504606846976
theorem M_eq : M = 1152921504606846976 := rfl

def fits (n : Int) : Bool := decide (-1152921504606846976 ≤ n) && decide (n ≤ 1152921504606846976)
theorem fits_true {n : Int} : fits n = true ↔ -1152921504606846976 ≤ n ∧ n ≤ 1152921504606846976 := by simp [fits]
theorem fits_false {n : Int} : fits n = false ↔ n < -1152921504606846976 ∨ 1152921504606846976 < n := by
  simp [fits]; omega

/-- an exact result as it is told: the number -/
def fitN (n : Int) : Int := if fits n then n else 0
/-- .. and the error -/
def fitE (n : Int) : Int := if fits n then 0 else 3

def addN (a b : Int) : Int := if fits a && fits b then fitN (a + b) else 0
def addE (a b : Int) : Int := if fits a && fits b then fitE (a + b) else 2
def subN (a b : Int) : Int := if fits a && fits b then fitN (a - b) else 0
def subE (a b : Int) : Int := if fits a && fits b then fitE (a - b) else 2

def clamp (n low high : Int) : Int := if n < low ∨ high < low then low else if high < n then high else n

def size (n : Int) : Int := if n < 0 then -n else n
theorem size_nonneg (n : Int) : 0 ≤ size n := by unfold size; split <;> omega
theorem size_le {n : Int} (h1 : -1152921504606846976 ≤ n) (h2 : n ≤ 1152921504606846976) : size n ≤ 1152921504606846976 := by unfold size; split <;> omega

end CM

/- Plain lists of numbers: sums and the like. -/
namespace LM

def tot : List Int → Int
  | [] => 0
  | x :: l => x + tot l

theorem tot_append (l m : List Int) : tot (l ++ m) = tot l + tot m := by
  induction l with
  | nil => simp [tot]
  | cons x l ih => simp only [List.cons_append, tot, ih]; omega

theorem tot_reverse (l : List Int) : tot l.reverse = tot l := by
  induction l with
  | nil => rfl
  | cons x l ih => rw [List.reverse_cons, tot_append, ih]; simp only [tot]; omega

theorem getD_at (l : List Int) (k : Nat) (h : k < l.length) : l.getD k 0 = l[k] := by simp [List.getD, h]

theorem take_snoc (l : List Int) (k : Nat) (h : k < l.length) : l.take (k + 1) = l.take k ++ [l.getD k 0] := by
  rw [List.take_succ_eq_append_getElem h, getD_at l k h]

theorem tot_take_succ (l : List Int) (k : Nat) (h : k < l.length) : tot (l.take (k + 1)) = tot (l.take k) + l.getD k 0 := by
  rw [take_snoc l k h, tot_append]; simp [tot]

theorem getD_mem (l : List Int) (k : Nat) (h : k < l.length) : l.getD k 0 ∈ l := by
  rw [getD_at l k h]; exact List.getElem_mem h

end LM

namespace CM
open LM

/-- all fit -/
def allFit (l : List Int) : Bool := l.all fits
def sumN (l : List Int) : Int := if allFit l then fitN (tot l) else 0
def sumE (l : List Int) : Int := if allFit l then fitE (tot l) else 2

theorem allFit_snoc (l : List Int) (x : Int) : allFit (l ++ [x]) = (allFit l && fits x) := by simp [allFit]
theorem allFit_take_succ (l : List Int) (k : Nat) (h : k < l.length) : allFit (l.take (k + 1)) = (allFit (l.take k) && fits (l.getD k 0)) := by
  rw [take_snoc l k h, allFit_snoc]
theorem allFit_reverse (l : List Int) : allFit l.reverse = allFit l := by simp [allFit]
theorem sumN_reverse (l : List Int) : sumN l.reverse = sumN l := by simp [sumN, allFit_reverse, tot_reverse]
theorem sumE_reverse (l : List Int) : sumE l.reverse = sumE l := by simp [sumE, allFit_reverse, tot_reverse]

theorem allFit_no {l : List Int} {k : Nat} (hk : k < l.length) (h : fits (l.getD k 0) = false) : sumN l = 0 ∧ sumE l = 2 := by
  have : allFit l = false := by
    cases hc : allFit l
    · rfl
    · have := (List.all_eq_true.1 hc) _ (getD_mem l k hk)
      rw [h] at this; exact absurd this (by simp)
  simp [sumN, sumE, this]

theorem sum_yes {l : List Int} (h : allFit l = true) : sumN l = fitN (tot l) ∧ sumE l = fitE (tot l) := by simp [sumN, sumE, h]

/-- what the program's Sum holds after k rounds -/
def SInv (l : List Int) (k : Nat) (full part : Int) : Prop :=
  allFit (l.take k) = true ∧ full * 1152921504606846976 + part = tot (l.take k) ∧ -1152921504606846976 < part ∧ part < 1152921504606846976 ∧ -(k : Int) ≤ full ∧ full ≤ k

theorem SInv.start (l : List Int) : SInv l 0 0 0 := ⟨rfl, rfl, by omega, by omega, by omega, by omega⟩

theorem SInv.bounds {l : List Int} {k : Nat} {full part : Int} (h : SInv l k full part) : -1152921504606846976 < part ∧ part < 1152921504606846976 ∧ -(k : Int) ≤ full ∧ full ≤ k := h.2.2

theorem SInv.step {l : List Int} {k : Nat} {full part f' p' : Int} (h : SInv l k full part) (hk : k < l.length) (hf : fits (l.getD k 0) = true)
    (he : f' * 1152921504606846976 + p' = full * 1152921504606846976 + part + l.getD k 0) (h1 : -1152921504606846976 < p') (h2 : p' < 1152921504606846976)
    (h3 : full - 1 ≤ f') (h4 : f' ≤ full + 1) : SInv l (k + 1) f' p' := by
  obtain ⟨a1, a2, a3, a4, a5, a6⟩ := h
  refine ⟨by rw [allFit_take_succ l k hk, a1, hf]; rfl, by rw [tot_take_succ l k hk, ← a2]; exact he, h1, h2, by omega, by omega⟩

theorem SInv.done {l : List Int} {full part : Int} (h : SInv l l.length full part) :
    (full > 1 ∨ full < -1 → sumN l = 0 ∧ sumE l = 3) ∧ (sumN l = fitN (full * 1152921504606846976 + part) ∧ sumE l = fitE (full * 1152921504606846976 + part)) := by
  obtain ⟨a1, a2, a3, a4, a5, a6⟩ := h
  rw [List.take_length] at a1 a2
  obtain ⟨s1, s2⟩ := sum_yes a1
  rw [s1, s2, a2]
  refine ⟨fun hf => ?_, rfl, rfl⟩
  have : fits (tot l) = false := by rw [fits_false, ← a2]; omega
  simp [fitN, fitE, this]
end CM
