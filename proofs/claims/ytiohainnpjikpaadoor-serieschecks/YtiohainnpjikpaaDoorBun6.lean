/- Put together: SeriesMath, CentsMath, CentsDiv, CentsDiv2, CentsMul, CentsLaws, RateMath, ProductMath. -/
import Derived.Test.YtiohainnpjikpaaDoorBun5
import Derived.Laws.Strings
import Derived.IntWalk
import Derived.Test.YtiohainnpjikpaaDoorBun2
/- Layer 10's mathematics: series in order, sorted lists without repeats. -/
namespace EM
open Go
structure Ser where
  prod : ByteArray
  kind : Int
  expiry : Int
  strike : Int
def zero : Ser := ⟨⟨#[]⟩, 0, 0, 0⟩
def less (a b : Ser) : Bool := Op.bytesLess a.prod.toList b.prod.toList
def ord (a b : Int) : Int := if a < b then -1 else if b < a then 1 else 0
def cmp (a b : Ser) : Int :=
  if less a b = true then -1 else if less b a = true then 1 else if a.expiry ≠ b.expiry then ord a.expiry b.expiry else if a.kind ≠ b.kind then ord a.kind b.kind else ord a.strike b.strike
theorem toList_inj {s t : ByteArray} (h : s.toList = t.toList) : s = t := by
  rw [Go.ByteArray.toList_eq, Go.ByteArray.toList_eq] at h
  cases s; cases t
  simp only [ByteArray.mk.injEq]
  exact Array.toList_inj.1 h
theorem same_prod {a b : Ser} (h1 : less a b = false) (h2 : less b a = false) : a.prod = b.prod := by
  unfold less at h1 h2
  rcases OM.bl_tri a.prod.toList b.prod.toList with h | h | h
  · rw [h] at h1; cases h1
  · exact toList_inj h
  · rw [h] at h2; cases h2
theorem less_irrefl (a : Ser) : less a a = false := OM.bl_irrefl _
theorem less_asymm {a b : Ser} (h : less a b = true) : less b a = false := OM.bl_asymm h
theorem less_trans {a b c : Ser} (h1 : less a b = true) (h2 : less b c = true) : less a c = true := OM.bl_trans _ _ _ h1 h2
/-- a is ahead of b -/
def lt (a b : Ser) : Prop := less a b = true ∨ (a.prod = b.prod ∧ (a.expiry < b.expiry ∨ (a.expiry = b.expiry ∧ (a.kind < b.kind ∨ (a.kind = b.kind ∧ a.strike < b.strike)))))
theorem less_of_eq {a b c : Ser} (h : b.prod = c.prod) : less a b = less a c := by unfold less; rw [h]
theorem less_of_eq' {a b c : Ser} (h : a.prod = b.prod) : less a c = less b c := by unfold less; rw [h]
theorem less_eq_false {a b : Ser} (h : a.prod = b.prod) : less a b = false := by unfold less; rw [h]; exact OM.bl_irrefl _
theorem lt_irrefl (a : Ser) : ¬ lt a a := by
  unfold lt
  rw [less_irrefl]
  simp
theorem lt_trans {a b c : Ser} (h1 : lt a b) (h2 : lt b c) : lt a c := by
  unfold lt at *
  rcases h1 with h1 | ⟨e1, h1⟩
  · rcases h2 with h2 | ⟨e2, h2⟩
    · exact .inl (less_trans h1 h2)
    · left; rw [← less_of_eq e2]; exact h1
  · rcases h2 with h2 | ⟨e2, h2⟩
    · left; rw [less_of_eq' e1]; exact h2
    · right; exact ⟨e1.trans e2, by omega⟩
theorem lt_tri (a b : Ser) : lt a b ∨ a = b ∨ lt b a := by
  cases h1 : less a b
  · cases h2 : less b a
    · have e := same_prod h1 h2
      by_cases g1 : a.expiry = b.expiry
      · by_cases g2 : a.kind = b.kind
        · by_cases g3 : a.strike = b.strike
          · right; left
            cases a; cases b
            simp_all
          · rcases Int.lt_or_gt_of_ne g3 with g | g
            · exact .inl (.inr ⟨e, by omega⟩)
            · exact .inr (.inr (.inr ⟨e.symm, by omega⟩))
        · rcases Int.lt_or_gt_of_ne g2 with g | g
          · exact .inl (.inr ⟨e, by omega⟩)
          · exact .inr (.inr (.inr ⟨e.symm, by omega⟩))
      · rcases Int.lt_or_gt_of_ne g1 with g | g
        · exact .inl (.inr ⟨e, by omega⟩)
        · exact .inr (.inr (.inr ⟨e.symm, by omega⟩))
    · exact .inr (.inr (.inl h2))
  · exact .inl (.inl h1)
theorem lt_asymm {a b : Ser} (h : lt a b) : ¬ lt b a := fun g => lt_irrefl a (lt_trans h g)
theorem cmp_lt {a b : Ser} (h : lt a b) : cmp a b = -1 := by
  unfold cmp
  rcases h with h | ⟨e, h⟩
  · rw [if_pos h]
  · rw [if_neg (by rw [less_eq_false e]; simp), if_neg (by rw [less_eq_false e.symm]; simp)]
    by_cases g1 : a.expiry = b.expiry
    · rw [if_neg (by simp [g1])]
      by_cases g2 : a.kind = b.kind
      · rw [if_neg (by simp [g2])]
        unfold ord; rw [if_pos (by omega)]
      · rw [if_pos g2]; unfold ord; rw [if_pos (by omega)]
    · rw [if_pos g1]; unfold ord; rw [if_pos (by omega)]
theorem cmp_gt {a b : Ser} (h : lt b a) : cmp a b = 1 := by
  unfold cmp
  rcases h with h | ⟨e, h⟩
  · rw [if_neg (by rw [less_asymm h]; simp), if_pos h]
  · rw [if_neg (by rw [less_eq_false e.symm]; simp), if_neg (by rw [less_eq_false e]; simp)]
    by_cases g1 : a.expiry = b.expiry
    · rw [if_neg (by simp [g1])]
      by_cases g2 : a.kind = b.kind
      · rw [if_neg (by simp [g2])]
        unfold ord; rw [if_neg (by omega), if_pos (by omega)]
      · rw [if_pos g2]; unfold ord; rw [if_neg (by omega), if_pos (by omega)]
    · rw [if_pos g1]; unfold ord; rw [if_neg (by omega), if_pos (by omega)]
theorem cmp_self (a : Ser) : cmp a a = 0 := by
  unfold cmp
  rw [if_neg (by rw [less_irrefl]; simp), if_neg (by rw [less_irrefl]; simp), if_neg (by simp), if_neg (by simp)]
  unfold ord; simp
/-- which of the three -/
theorem cmp_cases (a b : Ser) : (cmp a b = -1 ∧ lt a b) ∨ (cmp a b = 0 ∧ a = b) ∨ (cmp a b = 1 ∧ lt b a) := by
  rcases lt_tri a b with h | rfl | h
  · exact .inl ⟨cmp_lt h, h⟩
  · exact .inr (.inl ⟨cmp_self a, rfl⟩)
  · exact .inr (.inr ⟨cmp_gt h, h⟩)
theorem cmp_zero {a b : Ser} : cmp a b = 0 ↔ a = b := by
  constructor
  · intro h
    rcases cmp_cases a b with ⟨g, _⟩ | ⟨_, g⟩ | ⟨g, _⟩
    · rw [g] at h; cases h
    · exact g
    · rw [g] at h; cases h
  · rintro rfl; exact cmp_self a
theorem cmp_neg {a b : Ser} : cmp a b = -1 ↔ lt a b := by
  constructor
  · intro h
    rcases cmp_cases a b with ⟨_, g⟩ | ⟨g, _⟩ | ⟨g, _⟩
    · exact g
    · rw [g] at h; cases h
    · rw [g] at h; cases h
  · exact cmp_lt
theorem cmp_anti (a b : Ser) : cmp b a = -cmp a b := by
  rcases cmp_cases a b with ⟨h, g⟩ | ⟨h, rfl⟩ | ⟨h, g⟩
  · rw [h, cmp_gt g]; rfl
  · rw [h]; rfl
  · rw [h, cmp_lt g]
theorem cmp_range (a b : Ser) : -1 ≤ cmp a b ∧ cmp a b ≤ 1 := by
  rcases cmp_cases a b with ⟨h, _⟩ | ⟨h, _⟩ | ⟨h, _⟩ <;> omega
/-- what is ahead of one that is ahead is ahead -/
theorem cmp_trans (a b c : Ser) : 0 < cmp a b ∨ 0 < cmp b c ∨ (cmp a c ≤ 0 ∧ (cmp a c < 0 ↔ (cmp a b < 0 ∨ cmp b c < 0))) := by
  rcases cmp_cases a b with ⟨h1, g1⟩ | ⟨h1, rfl⟩ | ⟨h1, g1⟩
  · rcases cmp_cases b c with ⟨h2, g2⟩ | ⟨h2, rfl⟩ | ⟨h2, g2⟩
    · right; right
      rw [cmp_lt (lt_trans g1 g2)]; omega
    · right; right; omega
    · right; left; omega
  · rcases cmp_cases a c with ⟨h2, g2⟩ | ⟨h2, rfl⟩ | ⟨h2, g2⟩
    · right; right; omega
    · right; right; omega
    · right; left; omega
  · left; omega

/-! sorted lists -/
def asc (l : List Ser) : Prop := l.Pairwise lt
/-- one more in its place, if it is not there -/
def put (s : Ser) : List Ser → List Ser
  | [] => [s]
  | x :: r => if cmp s x < 0 then s :: x :: r else if cmp s x = 0 then x :: r else x :: put s r
theorem put_mem (s : Ser) (l : List Ser) (y : Ser) : y ∈ put s l ↔ y = s ∨ y ∈ l := by
  induction l with
  | nil => simp [put]
  | cons x r ih =>
    unfold put
    by_cases h : cmp s x < 0
    · rw [if_pos h]; simp
    · rw [if_neg h]
      by_cases h0 : cmp s x = 0
      · rw [if_pos h0]
        have := cmp_zero.1 h0
        subst this
        simp
      · rw [if_neg h0, List.mem_cons, ih, List.mem_cons]
        constructor
        · rintro (h | h | h)
          · exact .inr (.inl h)
          · exact .inl h
          · exact .inr (.inr h)
        · rintro (h | h | h)
          · exact .inr (.inl h)
          · exact .inl h
          · exact .inr (.inr h)
theorem put_asc (s : Ser) {l : List Ser} (h : asc l) : asc (put s l) := by
  induction l with
  | nil => unfold put asc; simp
  | cons x r ih =>
    obtain ⟨h1, h2⟩ := List.pairwise_cons.1 h
    unfold put
    by_cases hc : cmp s x < 0
    · rw [if_pos hc]
      have hl : lt s x := cmp_neg.1 (by have := cmp_range s x; omega)
      refine List.pairwise_cons.2 ⟨fun y hy => ?_, h⟩
      rcases List.mem_cons.1 hy with rfl | hy
      · exact hl
      · exact lt_trans hl (h1 y hy)
    · rw [if_neg hc]
      by_cases h0 : cmp s x = 0
      · rw [if_pos h0]; exact h
      · rw [if_neg h0]
        refine List.pairwise_cons.2 ⟨fun y hy => ?_, ih h2⟩
        rcases (put_mem s r y).1 hy with rfl | hy
        · rcases cmp_cases y x with ⟨g, _⟩ | ⟨g, _⟩ | ⟨_, g⟩
          · omega
          · omega
          · exact g
        · exact h1 y hy
def sortL (l : List Ser) : List Ser := l.foldl (fun out s => put s out) []
theorem sort_snoc (l : List Ser) (s : Ser) : sortL (l ++ [s]) = put s (sortL l) := by simp [sortL]
theorem fold_asc (l : List Ser) : ∀ out, asc out → asc (l.foldl (fun out s => put s out) out) := by
  induction l with
  | nil => intro out h; exact h
  | cons s l ih => intro out h; exact ih _ (put_asc s h)
theorem fold_mem (l : List Ser) (y : Ser) : ∀ out, y ∈ l.foldl (fun out s => put s out) out ↔ y ∈ out ∨ y ∈ l := by
  induction l with
  | nil => intro out; simp
  | cons s l ih =>
    intro out
    rw [List.foldl_cons, ih, put_mem, List.mem_cons]
    constructor
    · rintro ((h | h) | h)
      · exact .inr (.inl h)
      · exact .inl h
      · exact .inr (.inr h)
    · rintro (h | h | h)
      · exact .inl (.inr h)
      · exact .inl (.inl h)
      · exact .inr h
theorem sort_asc (l : List Ser) : asc (sortL l) := fold_asc l [] List.Pairwise.nil
theorem sort_mem (l : List Ser) (y : Ser) : y ∈ sortL l ↔ y ∈ l := by
  unfold sortL; rw [fold_mem]; simp
/-- two that rise and hold the same are the same -/
theorem asc_unique : ∀ {l k : List Ser}, asc l → asc k → (∀ y, y ∈ l ↔ y ∈ k) → l = k := by
  intro l
  induction l with
  | nil =>
    intro k _ _ h
    cases k with
    | nil => rfl
    | cons y r => exact absurd ((h y).2 (by simp)) (by simp)
  | cons x r ih =>
    intro k hl hk h
    cases k with
    | nil => exact absurd ((h x).1 (by simp)) (by simp)
    | cons y s =>
      obtain ⟨l1, l2⟩ := List.pairwise_cons.1 hl
      obtain ⟨k1, k2⟩ := List.pairwise_cons.1 hk
      have e : x = y := by
        rcases List.mem_cons.1 ((h x).1 (by simp)) with g | g
        · exact g
        · rcases List.mem_cons.1 ((h y).2 (by simp)) with g' | g'
          · exact g'.symm
          · exact absurd (l1 y g') (lt_asymm (k1 x g))
      subst e
      congr 1
      refine ih l2 k2 fun z => ?_
      constructor
      · intro hz
        rcases List.mem_cons.1 ((h z).1 (List.mem_cons_of_mem _ hz)) with rfl | g
        · exact absurd (l1 z hz) (lt_irrefl z)
        · exact g
      · intro hz
        rcases List.mem_cons.1 ((h z).2 (List.mem_cons_of_mem _ hz)) with rfl | g
        · exact absurd (k1 z hz) (lt_irrefl z)
        · exact g
theorem sort_again (l : List Ser) : sortL (sortL l) = sortL l := asc_unique (sort_asc _) (sort_asc _) (fun y => sort_mem _ y)
theorem sort_of_asc {l k : List Ser} (h : asc k) (hm : ∀ y, y ∈ k ↔ y ∈ l) : k = sortL l := asc_unique h (sort_asc l) (fun y => by rw [hm, sort_mem])
theorem asc_at {l : List Ser} (h : asc l) {i : Nat} (h1 : 0 < i) (h2 : i < l.length) : lt l[i - 1] l[i] := List.pairwise_iff_getElem.1 h (i - 1) i (by omega) h2 (by omega)
end EM

/- Plain mathematics of layer 1: no Go in sight. -/
namespace CM

/-- 2^60 -/
def M : Int := 1152921504606846976
theorem M_eq : M = 1152921504606846976 := rfl

def fits (n : Int) : Bool := decide (-1152921504606846976 ≤ n) && decide (n ≤ 1152921504606846976)
theorem fits_true {n : Int} : fits n = true ↔ -1152921504606846976 ≤ n ∧ n ≤ 1152921504606846976 := by simp [fits]
theorem fits_false {n : Int} : fits n = false ↔ n < -1152921504606846976 ∨ 1152921504606846976 < n := by
  simp [fits]; omega

/-- an exact result as it is told: the number -/
def fitN (n : Int) : Int := if fits n then n else 0
/-- .. and the error -/
def fitE (n : Int) : Int := if fits n then 0 else 3

def addN (a b : Int) : Int := if fits a && fits b then fitN (a + b) else 0
def addE (a b : Int) : Int := if fits a && fits b then fitE (a + b) else 2
def subN (a b : Int) : Int := if fits a && fits b then fitN (a - b) else 0
def subE (a b : Int) : Int := if fits a && fits b then fitE (a - b) else 2

def clamp (n low high : Int) : Int := if n < low ∨ high < low then low else if high < n then high else n

def size (n : Int) : Int := if n < 0 then -n else n
theorem size_nonneg (n : Int) : 0 ≤ size n := by unfold size; split <;> omega
theorem size_le {n : Int} (h1 : -1152921504606846976 ≤ n) (h2 : n ≤ 1152921504606846976) : size n ≤ 1152921504606846976 := by unfold size; split <;> omega

end CM

/- Plain mathematics of the bitwise division. -/
namespace CM

/-- what the bitwise division holds after k of its 61 rounds -/
def DInv (a b c k : Nat) (q r : Int) : Prop :=
  q = ((a / 2 ^ (61 - k) * b / c : Nat) : Int) ∧ r = ((a / 2 ^ (61 - k) * b % c : Nat) : Int) ∧ q ≤ 1152921504606846976

/-- the bit of round k -/
def bitAt (a k : Nat) : Nat := a / 2 ^ (60 - k) % 2

theorem half_step (a k : Nat) (hk : k < 61) : a / 2 ^ (61 - (k + 1)) = 2 * (a / 2 ^ (61 - k)) + bitAt a k := by
  have e : 61 - k = (60 - k) + 1 := by omega
  have e2 : 61 - (k + 1) = 60 - k := by omega
  rw [e, e2, Nat.pow_succ, ← Nat.div_div_eq_div_mul]
  unfold bitAt
  omega

theorem bit_01 (a k : Nat) : bitAt a k = 0 ∨ bitAt a k = 1 := by unfold bitAt; omega

theorem DInv.start (a b c : Nat) (ha : a ≤ 1152921504606846976) : DInv a b c 0 0 0 := by
  have h : a / 2 ^ (61 - 0) = 0 := Nat.div_eq_of_lt (by omega)
  unfold DInv; rw [h]; simp

theorem DInv.bounds {a b c k : Nat} {q r : Int} (h : DInv a b c k q r) (hc : 0 < c) : 0 ≤ q ∧ q ≤ 1152921504606846976 ∧ 0 ≤ r ∧ r < c := by
  obtain ⟨h1, h2, h3⟩ := h
  have := Nat.mod_lt (a / 2 ^ (61 - k) * b) hc
  generalize a / 2 ^ (61 - k) * b / c = X at *
  generalize a / 2 ^ (61 - k) * b % c = Y at *
  omega

theorem step_div (A b c t : Nat) (hc : 0 < c) : (2 * A + t) * b / c = 2 * (A * b / c) + (2 * (A * b % c) + t * b) / c ∧ (2 * A + t) * b % c = (2 * (A * b % c) + t * b) % c := by
  have e : (2 * A + t) * b = c * (2 * (A * b / c)) + (2 * (A * b % c) + t * b) := by
    have := Nat.div_add_mod (A * b) c
    calc (2 * A + t) * b = 2 * (A * b) + t * b := by rw [Nat.add_mul, Nat.mul_assoc]
      _ = 2 * (c * (A * b / c) + A * b % c) + t * b := by rw [this]
      _ = _ := by rw [Nat.mul_add, Nat.mul_left_comm]; omega
  rw [e]
  exact ⟨by rw [Nat.mul_add_div hc], by rw [Nat.mul_add_mod]⟩

theorem split_div (r b c : Nat) (hc : 0 < c) : (2 * r + b) / c = b / c + (2 * r + b % c) / c ∧ (2 * r + b) % c = (2 * r + b % c) % c := by
  have e : 2 * r + b = c * (b / c) + (2 * r + b % c) := by
    have := Nat.div_add_mod b c
    omega
  rw [e]
  exact ⟨by rw [Nat.mul_add_div hc], by rw [Nat.mul_add_mod]⟩

theorem mono_div (a b c k : Nat) : a / 2 ^ (61 - (k + 1)) * b / c ≤ a * b / c :=
  Nat.div_le_div_right (Nat.mul_le_mul_right _ (Nat.div_le_self _ _))

theorem DInv.step0 {a b c k : Nat} {x y : Int} (h : DInv a b c k x y) (hk : k < 61) (hc : 0 < c) (hb : bitAt a k = 0) :
    (2 * x + 2 * y / (c : Int) ≤ 1152921504606846976 → DInv a b c (k + 1) (2 * x + 2 * y / (c : Int)) (2 * y % (c : Int))) ∧
    (1152921504606846976 < 2 * x + 2 * y / (c : Int) → 1152921504606846976 < a * b / c) := by
  obtain ⟨hx, hy, _⟩ := h
  have hs := half_step a k hk
  rw [hb] at hs
  obtain ⟨s1, s2⟩ := step_div (a / 2 ^ (61 - k)) b c 0 hc
  rw [← hs] at s1 s2
  have hm := mono_div a b c k
  have e1 : 2 * x + 2 * y / (c : Int) = ((a / 2 ^ (61 - (k + 1)) * b / c : Nat) : Int) := by
    rw [s1, hx, hy]; simp only [Nat.zero_mul, Nat.add_zero]; rw [Int.natCast_add, Int.natCast_mul, Int.natCast_ediv, Int.natCast_mul]; rfl
  have e2 : 2 * y % (c : Int) = ((a / 2 ^ (61 - (k + 1)) * b % c : Nat) : Int) := by
    rw [s2, hy]; simp only [Nat.zero_mul, Nat.add_zero]; rw [Int.natCast_emod, Int.natCast_mul]; rfl
  rw [e1, e2]
  exact ⟨fun hle => ⟨rfl, rfl, hle⟩, fun hlt => by omega⟩

theorem DInv.step1 {a b c k : Nat} {x y : Int} (h : DInv a b c k x y) (hk : k < 61) (hc : 0 < c) (hb : bitAt a k = 1) :
    (2 * x + (b : Int) / (c : Int) + (2 * y + (b : Int) % (c : Int)) / (c : Int) ≤ 1152921504606846976 → DInv a b c (k + 1) (2 * x + (b : Int) / (c : Int) + (2 * y + (b : Int) % (c : Int)) / (c : Int)) ((2 * y + (b : Int) % (c : Int)) % (c : Int))) ∧
    (1152921504606846976 < 2 * x + (b : Int) / (c : Int) + (2 * y + (b : Int) % (c : Int)) / (c : Int) → 1152921504606846976 < a * b / c) := by
  obtain ⟨hx, hy, _⟩ := h
  have hs := half_step a k hk
  rw [hb] at hs
  obtain ⟨s1, s2⟩ := step_div (a / 2 ^ (61 - k)) b c 1 hc
  rw [← hs, Nat.one_mul] at s1 s2
  obtain ⟨d1, d2⟩ := split_div (a / 2 ^ (61 - k) * b % c) b c hc
  rw [d1] at s1
  rw [d2] at s2
  have hm := mono_div a b c k
  have e1 : 2 * x + (b : Int) / (c : Int) + (2 * y + (b : Int) % (c : Int)) / (c : Int) = ((a / 2 ^ (61 - (k + 1)) * b / c : Nat) : Int) := by
    rw [s1, hx, hy, Int.add_assoc]
    simp only [Int.natCast_add, Int.natCast_mul, Int.natCast_ediv, Int.natCast_emod]; rfl
  have e2 : (2 * y + (b : Int) % (c : Int)) % (c : Int) = ((a / 2 ^ (61 - (k + 1)) * b % c : Nat) : Int) := by
    rw [s2, hy]
    simp only [Int.natCast_add, Int.natCast_mul, Int.natCast_emod]; rfl
  rw [e1, e2]
  exact ⟨fun hle => ⟨rfl, rfl, hle⟩, fun hlt => by omega⟩

/-- what the division tells -/
def dok (a b c : Nat) : Bool := decide (a * b / c ≤ 1152921504606846976)
def dq (a b c : Nat) : Int := if dok a b c then ((a * b / c : Nat) : Int) else 0
def dr (a b c : Nat) : Int := if dok a b c then ((a * b % c : Nat) : Int) else 0

theorem DInv.done {a b c : Nat} {x y : Int} (h : DInv a b c 61 x y) : x = dq a b c ∧ y = dr a b c ∧ dok a b c = true := by
  obtain ⟨hx, hy, hm⟩ := h
  simp only [Nat.sub_self, Nat.pow_zero, Nat.div_one] at hx hy
  have hk : dok a b c = true := by unfold dok; simp only [decide_eq_true_eq]; omega
  simp [dq, dr, hk, hx, hy]

theorem dok_no {a b c : Nat} (h : 1152921504606846976 < a * b / c) : dok a b c = false ∧ dq a b c = 0 ∧ dr a b c = 0 := by
  have hk : dok a b c = false := by unfold dok; simp only [decide_eq_false_iff_not]; omega
  simp [dq, dr, hk]
theorem dok_yes {a b c : Nat} (h : a * b / c ≤ 1152921504606846976) : dok a b c = true := by unfold dok; simpa using h

/-- the reference's quotient, held at 2^61 -/
def rq (a b c : Nat) : Int := if a * b / c ≤ 2305843009213693952 then ((a * b / c : Nat) : Int) else 2305843009213693952

/-- .. and the rest -/
def rr (a b c : Nat) : Int := ((a * b % c : Nat) : Int)

def RInv (a b c k : Nat) (q r : Int) : Prop :=
  q = rq (a / 2 ^ (61 - k)) b c ∧ r = ((a / 2 ^ (61 - k) * b % c : Nat) : Int)

theorem RInv.start (a b c : Nat) (ha : a ≤ 1152921504606846976) : RInv a b c 0 0 0 := by
  have h : a / 2 ^ (61 - 0) = 0 := Nat.div_eq_of_lt (by omega)
  unfold RInv rq; rw [h]; simp

theorem RInv.bounds {a b c k : Nat} {q r : Int} (h : RInv a b c k q r) (hc : 0 < c) : 0 ≤ q ∧ q ≤ 2305843009213693952 ∧ 0 ≤ r ∧ r < c := by
  obtain ⟨h1, h2⟩ := h
  have := Nat.mod_lt (a / 2 ^ (61 - k) * b) hc
  unfold rq at h1
  generalize a / 2 ^ (61 - k) * b / c = X at *
  generalize a / 2 ^ (61 - k) * b % c = Y at *
  split at h1 <;> omega

/-- one round of the reference: t is the bit, z what stands to be divided -/
theorem RInv.step {a b c k : Nat} {x y : Int} (h : RInv a b c k x y) (hk : k < 61) (hc : 0 < c) (z : Int) (hz : z = 2 * y + bitAt a k * b) :
    (2 * x + z / (c : Int) ≤ 2305843009213693952 → RInv a b c (k + 1) (2 * x + z / (c : Int)) (z % (c : Int))) ∧
    (2305843009213693952 < 2 * x + z / (c : Int) → RInv a b c (k + 1) 2305843009213693952 (z % (c : Int))) := by
  obtain ⟨hx, hy⟩ := h
  have hs := half_step a k hk
  obtain ⟨s1, s2⟩ := step_div (a / 2 ^ (61 - k)) b c (bitAt a k) hc
  rw [← hs] at s1 s2
  have ez : z = ((2 * (a / 2 ^ (61 - k) * b % c) + bitAt a k * b : Nat) : Int) := by
    rw [hz, hy]; simp only [Int.natCast_add, Int.natCast_mul, Int.natCast_emod]; rfl
  have e2 : z % (c : Int) = ((a / 2 ^ (61 - (k + 1)) * b % c : Nat) : Int) := by
    rw [s2, ez]; rfl
  have e1 : z / (c : Int) = (((2 * (a / 2 ^ (61 - k) * b % c) + bitAt a k * b) / c : Nat) : Int) := by
    rw [ez]; rfl
  unfold RInv rq
  rw [e2, e1]
  unfold rq at hx
  rw [s1]
  generalize (2 * (a / 2 ^ (61 - k) * b % c) + bitAt a k * b) / c = Z at *
  generalize a / 2 ^ (61 - k) * b / c = X at *
  constructor
  · intro hle
    split at hx
    · refine ⟨?_, rfl⟩
      rw [if_pos (by omega)]; omega
    · omega
  · intro hlt
    refine ⟨?_, rfl⟩
    split at hx
    · rw [if_neg (by omega)]
    · rw [if_neg (by omega)]

theorem RInv.done {a b c : Nat} {x y : Int} (h : RInv a b c 61 x y) : x = rq a b c ∧ y = rr a b c := by
  obtain ⟨hx, hy⟩ := h
  simp only [Nat.sub_self, Nat.pow_zero, Nat.div_one] at hx hy
  exact ⟨hx, hy⟩

/-- is the exact quotient's sign minus? -/
def neg (a b c : Int) : Bool := !((!(decide (a < 0) == decide (b < 0))) == decide (c < 0))

/-- does the quotient's size grow by one? -/
def grow (q r c mode : Int) (n : Bool) : Bool :=
  if r = 0 then false else if mode = 2 then true else if mode = 3 then n else if mode = 4 then !n else
  if mode = 5 then decide (c < 2 * r) || (decide (2 * r = c) && decide (q % 2 = 1)) else false

def mdQ (a b c : Int) : Nat := (size a).toNat * (size b).toNat / (size c).toNat
def mdR (a b c : Int) : Nat := (size a).toNat * (size b).toNat % (size c).toNat
/-- the rounded quotient's size -/
def mdG (a b c mode : Int) : Int := mdQ a b c + if grow (mdQ a b c) (mdR a b c) (size c) mode (neg a b c) then 1 else 0
def mdA (a b c mode : Int) : Bool := fits a && fits b && fits c && decide (1 ≤ mode) && decide (mode ≤ 5)
/-- MulDiv's number -/
def mdN (a b c mode : Int) : Int :=
  if mdA a b c mode then if c = 0 then 0 else if mdG a b c mode ≤ 1152921504606846976 then (if neg a b c then -mdG a b c mode else mdG a b c mode) else 0 else 0
/-- .. and its error -/
def mdE (a b c mode : Int) : Int :=
  if mdA a b c mode then if c = 0 then 4 else if mdG a b c mode ≤ 1152921504606846976 then 0 else 3 else 2

theorem size_pos {c : Int} (h : c ≠ 0) : 0 < size c := by unfold size; split <;> omega
theorem size_zero {c : Int} (h : size c = 0) : c = 0 := by unfold size at h; split at h <;> omega

theorem mdQ_nonneg (a b c : Int) : (0 : Int) ≤ mdQ a b c := Int.natCast_nonneg _
theorem mdR_lt (a b : Int) {c : Int} (h : c ≠ 0) : (mdR a b c : Int) < size c := by
  have := size_pos h
  have := Nat.mod_lt ((size a).toNat * (size b).toNat) (show 0 < (size c).toNat by omega)
  unfold mdR; omega

theorem dq_eq {a b c : Int} (h : dok (size a).toNat (size b).toNat (size c).toNat = true) :
    dq (size a).toNat (size b).toNat (size c).toNat = mdQ a b c ∧ dr (size a).toNat (size b).toNat (size c).toNat = mdR a b c := by
  simp [dq, dr, h, mdQ, mdR]
theorem dok_iff {a b c : Int} : dok (size a).toNat (size b).toNat (size c).toNat = true ↔ (mdQ a b c : Int) ≤ 1152921504606846976 := by
  unfold dok mdQ; simp only [decide_eq_true_eq]; omega

/-- what is told of the signed result, through 'fitting' -/
theorem md_fit {a b c mode g : Int} (hA : mdA a b c mode = true) (hc : c ≠ 0) (hg : g = if neg a b c then -mdG a b c mode else mdG a b c mode) :
    fitN g = mdN a b c mode ∧ fitE g = mdE a b c mode := by
  have h0 : 0 ≤ mdG a b c mode := by
    have := mdQ_nonneg a b c
    unfold mdG; split <;> omega
  unfold fitN fitE mdN mdE
  simp only [hA, hc, if_true, if_false]
  by_cases hle : mdG a b c mode ≤ 1152921504606846976
  · have hf : fits g = true := by rw [fits_true, hg]; split <;> omega
    rw [hg] at hf ⊢
    simp [hle, hf]
  · have hf : fits g = false := by rw [fits_false, hg]; split <;> omega
    simp [hle, hf]

/-- the quotient alone does not fit -/
theorem md_over {a b c mode : Int} (hA : mdA a b c mode = true) (hc : c ≠ 0) (h : 1152921504606846976 < (mdQ a b c : Int)) :
    mdN a b c mode = 0 ∧ mdE a b c mode = 3 := by
  have h0 : ¬ mdG a b c mode ≤ 1152921504606846976 := by unfold mdG; split <;> omega
  simp [mdN, mdE, hA, hc, h0]
end CM

namespace CM
theorem ref_bounds (a b : Int) {c : Int} (hc : c ≠ 0) :
    0 ≤ rq (size a).toNat (size b).toNat (size c).toNat ∧ rq (size a).toNat (size b).toNat (size c).toNat ≤ 2305843009213693952 ∧
    0 ≤ rr (size a).toNat (size b).toNat (size c).toNat ∧ rr (size a).toNat (size b).toNat (size c).toNat < size c := by
  have h := mdR_lt a b hc
  unfold mdR at h
  unfold rq rr
  refine ⟨by split; exact Int.natCast_nonneg _; omega, by split <;> omega, Int.natCast_nonneg _, h⟩

theorem md_ref {a b c mode : Int} (hA : mdA a b c mode = true) (hc : c ≠ 0) :
    (1152921504606846976 < rq (size a).toNat (size b).toNat (size c).toNat + (if grow (rq (size a).toNat (size b).toNat (size c).toNat) (rr (size a).toNat (size b).toNat (size c).toNat) (size c) mode (neg a b c) then 1 else 0) →
      mdN a b c mode = 0 ∧ mdE a b c mode = 3) ∧
    (rq (size a).toNat (size b).toNat (size c).toNat + (if grow (rq (size a).toNat (size b).toNat (size c).toNat) (rr (size a).toNat (size b).toNat (size c).toNat) (size c) mode (neg a b c) then 1 else 0) ≤ 1152921504606846976 →
      mdN a b c mode = (if neg a b c then -(rq (size a).toNat (size b).toNat (size c).toNat + (if grow (rq (size a).toNat (size b).toNat (size c).toNat) (rr (size a).toNat (size b).toNat (size c).toNat) (size c) mode (neg a b c) then 1 else 0))
        else rq (size a).toNat (size b).toNat (size c).toNat + (if grow (rq (size a).toNat (size b).toNat (size c).toNat) (rr (size a).toNat (size b).toNat (size c).toNat) (size c) mode (neg a b c) then 1 else 0)) ∧ mdE a b c mode = 0) := by
  by_cases hQ : (size a).toNat * (size b).toNat / (size c).toNat ≤ 2305843009213693952
  · have e1 : rq (size a).toNat (size b).toNat (size c).toNat = mdQ a b c := by unfold rq mdQ; rw [if_pos hQ]
    have e2 : rr (size a).toNat (size b).toNat (size c).toNat = mdR a b c := rfl
    rw [e1, e2]
    have e3 : (mdQ a b c : Int) + (if grow (mdQ a b c) (mdR a b c) (size c) mode (neg a b c) then 1 else 0) = mdG a b c mode := rfl
    rw [e3]
    constructor
    · intro hlt
      have hn : ¬ mdG a b c mode ≤ 1152921504606846976 := by omega
      simp [mdN, mdE, hA, hc, hn]
    · intro hle
      simp [mdN, mdE, hA, hc, hle]
  · have e1 : rq (size a).toNat (size b).toNat (size c).toNat = 2305843009213693952 := by unfold rq; rw [if_neg hQ]
    rw [e1]
    have hQ2 : 1152921504606846976 < (mdQ a b c : Int) := by unfold mdQ; omega
    constructor
    · intro _
      exact md_over hA hc hQ2
    · intro hle
      split at hle <;> omega
end CM

namespace CM

theorem mul_spec {a b : Int} (ha : fits a = true) (hb : fits b = true) :
    (size a * size b ≤ 1152921504606846976 → mdN a b 1 1 = a * b ∧ mdE a b 1 1 = 0) ∧
    (1152921504606846976 < size a * size b → mdN a b 1 1 = 0 ∧ mdE a b 1 1 = 3) := by
  have hA : mdA a b 1 1 = true := by simp [mdA, ha, hb]; decide
  have h1 : size 1 = 1 := rfl
  have hR : mdR a b 1 = 0 := by simp [mdR, h1, Nat.mod_one]
  have hQ : (mdQ a b 1 : Int) = size a * size b := by
    have := size_nonneg a
    have := size_nonneg b
    simp only [mdQ, h1, Int.toNat_one, Nat.div_one, Int.natCast_mul]
    rw [Int.toNat_of_nonneg ‹_›, Int.toNat_of_nonneg ‹_›]
  have hG : mdG a b 1 1 = size a * size b := by
    unfold mdG; rw [hR, hQ]; simp [grow]
  constructor
  · intro hle
    rw [← hG] at hle
    simp only [mdN, mdE, hA, hle, if_true]
    refine ⟨?_, by simp⟩
    rw [if_neg (by omega), hG]
    unfold neg size
    by_cases s1 : a < 0 <;> by_cases s2 : b < 0 <;> simp [s1, s2, Int.neg_mul, Int.mul_neg]
  · intro hlt
    rw [← hG] at hlt
    have hn : ¬ mdG a b 1 1 ≤ 1152921504606846976 := by omega
    simp [mdN, mdE, hA, hn]

theorem mul_arg {a b : Int} (h : fits a = false ∨ fits b = false) : mdN a b 1 1 = 0 ∧ mdE a b 1 1 = 2 := by
  have hA : mdA a b 1 1 = false := by rcases h with h | h <;> simp [mdA, h]
  simp [mdN, mdE, hA]

theorem over_iff {a b : Int} (ha : a ≠ 0) : 1152921504606846976 / size a < size b ↔ 1152921504606846976 < size a * size b := by
  rw [Int.ediv_lt_iff_lt_mul (size_pos ha), Int.mul_comm]

theorem size_mul (a b : Int) : size a * size b = size (a * b) := by
  unfold size
  by_cases s1 : a < 0 <;> by_cases s2 : b < 0
  · have : 0 < a * b := Int.mul_pos_of_neg_of_neg s1 s2
    simp only [s1, s2, if_true]; rw [if_neg (by omega), Int.neg_mul_neg]
  · rcases Int.lt_or_eq_of_le (Int.not_lt.1 s2) with h | h
    · have : a * b < 0 := Int.mul_neg_of_neg_of_pos s1 h
      simp only [s1, s2, this, if_true, if_false]; rw [Int.neg_mul]
    · subst h; simp
  · rcases Int.lt_or_eq_of_le (Int.not_lt.1 s1) with h | h
    · have : a * b < 0 := Int.mul_neg_of_pos_of_neg h s2
      simp only [s1, s2, this, if_true, if_false]; rw [Int.mul_neg]
    · subst h; simp
  · have : 0 ≤ a * b := Int.mul_nonneg (by omega) (by omega)
    simp only [s1, s2, if_false]; rw [if_neg (by omega)]

theorem mul_in {a b : Int} (h : size a * size b ≤ 1152921504606846976) : -1152921504606846976 ≤ a * b ∧ a * b ≤ 1152921504606846976 := by
  rw [size_mul] at h
  unfold size at h
  split at h <;> omega
end CM

/- Plain mathematics of the laws of layer 1. -/
namespace CM

theorem add_back {a b : Int} (h : addE a b = 0) : subN (addN a b) b = a ∧ subE (addN a b) b = 0 := by
  unfold addE at h
  cases ha : fits a <;> cases hb : fits b <;> simp [ha, hb] at h
  cases hc : fits (a + b)
  · simp [fitE, hc] at h
  · have e : addN a b = a + b := by simp [addN, fitN, ha, hb, hc]
    have e2 : a + b - b = a := by omega
    rw [e]
    simp [subN, subE, fitN, fitE, hb, hc, e2, ha]

theorem md_back {a b mode : Int} (ha : fits a = true) (hb : fits b = true) (h0 : b ≠ 0) (h1 : 1 ≤ mode) (h5 : mode ≤ 5) : mdN a b b mode = a ∧ mdE a b b mode = 0 := by
  have hA : mdA a b b mode = true := by simp [mdA, ha, hb, h1, h5]
  have sp := size_pos h0
  have hQ : mdQ a b b = (size a).toNat := by unfold mdQ; exact Nat.mul_div_cancel _ (by omega)
  have hR : mdR a b b = 0 := by unfold mdR; exact Nat.mul_mod_left _ _
  have hG : mdG a b b mode = size a := by
    have := size_nonneg a
    unfold mdG; rw [hQ, hR]; simp [grow]; omega
  obtain ⟨a1, a2⟩ := fits_true.1 ha
  have hle := size_le a1 a2
  simp only [mdN, mdE, hA, if_true, h0, if_false, hG, hle]
  refine ⟨?_, trivial⟩
  unfold neg size
  by_cases s1 : a < 0 <;> by_cases s2 : b < 0 <;> simp [s1, s2]

theorem fits_one : fits 1 = true := by decide

/-- the error of one mode says it of all, where even Down fails -/
theorem md_down_err {a b c mode : Int} (h : mdE a b c 1 ≠ 0) (h1 : 1 ≤ mode) (h5 : mode ≤ 5) : mdE a b c mode ≠ 0 := by
  cases hA : mdA a b c 1
  · have hA' : mdA a b c mode = false := by
      unfold mdA at hA ⊢
      simp [h1, h5] at hA ⊢
      exact hA
    simp [mdE, hA']
  · have hA' : mdA a b c mode = true := by
      unfold mdA at hA ⊢
      simp [h1, h5] at hA ⊢
      exact hA
    by_cases hc : c = 0
    · subst hc; simp [mdE, hA']
    · have hd : mdG a b c 1 = mdQ a b c := by unfold mdG; simp [grow]
      have hQ : 1152921504606846976 < (mdQ a b c : Int) := by
        simp [mdE, hA, hc, hd] at h
        omega
      rw [(md_over hA' hc hQ).2]; decide

/-- how the five modes lie, where all answer -/
def Lie (low high down up half : Int) : Prop :=
  ∃ q : Int, (0 ≤ q ∧ q ≤ 1152921504606846976) ∧
    ((low = q ∧ high = q ∧ down = q ∧ up = q ∧ half = q) ∨
     (low = q ∧ high = q + 1 ∧ down = q ∧ up = q + 1 ∧ (half = q ∨ half = q + 1)) ∨
     (low = -q ∧ high = -q ∧ down = -q ∧ up = -q ∧ half = -q) ∨
     (low = -(q + 1) ∧ high = -q ∧ down = -q ∧ up = -(q + 1) ∧ (half = -q ∨ half = -(q + 1))))

theorem md_ok {a b c mode : Int} (h : mdE a b c mode = 0) :
    mdA a b c mode = true ∧ c ≠ 0 ∧ mdG a b c mode ≤ 1152921504606846976 ∧ mdN a b c mode = if neg a b c then -mdG a b c mode else mdG a b c mode := by
  cases hA : mdA a b c mode
  · simp [mdE, hA] at h
  · by_cases hc : c = 0
    · subst hc; simp [mdE, hA] at h
    · by_cases hg : mdG a b c mode ≤ 1152921504606846976
      · exact ⟨rfl, hc, hg, by simp [mdN, hA, hc, hg]⟩
      · simp [mdE, hA, hc, hg] at h

theorem md_lie {a b c : Int} (e1 : mdE a b c 1 = 0) (e2 : mdE a b c 2 = 0) (e3 : mdE a b c 3 = 0) (e4 : mdE a b c 4 = 0) (e5 : mdE a b c 5 = 0) :
    Lie (mdN a b c 3) (mdN a b c 4) (mdN a b c 1) (mdN a b c 2) (mdN a b c 5) := by
  obtain ⟨_, hc, g1, n1⟩ := md_ok e1
  obtain ⟨_, _, g2, n2⟩ := md_ok e2
  obtain ⟨_, _, g3, n3⟩ := md_ok e3
  obtain ⟨_, _, g4, n4⟩ := md_ok e4
  obtain ⟨_, _, g5, n5⟩ := md_ok e5
  have q0 := mdQ_nonneg a b c
  refine ⟨mdQ a b c, ⟨q0, ?_⟩, ?_⟩
  · unfold mdG at g1; split at g1 <;> omega
  rw [n1, n2, n3, n4, n5]
  by_cases hr : (mdR a b c : Int) = 0
  · have hz : ∀ m, mdG a b c m = mdQ a b c := fun m => by unfold mdG grow; simp [hr]
    simp only [hz]
    cases neg a b c <;> simp
  · have z1 : mdG a b c 1 = mdQ a b c := by unfold mdG grow; simp
    have z2 : mdG a b c 2 = mdQ a b c + 1 := by unfold mdG grow; rw [if_neg hr]; simp
    cases hn : neg a b c
    · have z3 : mdG a b c 3 = mdQ a b c := by unfold mdG grow; rw [if_neg hr]; simp [hn]
      have z4 : mdG a b c 4 = mdQ a b c + 1 := by unfold mdG grow; rw [if_neg hr]; simp [hn]
      have z5 : mdG a b c 5 = mdQ a b c ∨ mdG a b c 5 = mdQ a b c + 1 := by unfold mdG; split <;> omega
      rw [z1, z2, z3, z4]
      simp only [Bool.false_eq_true, if_false]
      exact .inr (.inl ⟨trivial, trivial, trivial, trivial, z5⟩)
    · have z3 : mdG a b c 3 = mdQ a b c + 1 := by unfold mdG grow; rw [if_neg hr]; simp [hn]
      have z4 : mdG a b c 4 = mdQ a b c := by unfold mdG grow; rw [if_neg hr]; simp [hn]
      have z5 : mdG a b c 5 = mdQ a b c ∨ mdG a b c 5 = mdQ a b c + 1 := by unfold mdG; split <;> omega
      rw [z1, z2, z3, z4]
      simp only [if_true]
      refine .inr (.inr (.inr ⟨trivial, trivial, trivial, trivial, ?_⟩))
      rcases z5 with z | z <;> rw [z]
      · exact .inl rfl
      · exact .inr rfl
end CM

/- What conversions by two rates do: there and back; more is no less. -/
namespace CM
set_option linter.unusedVariables false

/-- both rates above nought: the sign is the amount's -/
theorem neg_of {a b c : Int} (hb : 0 < b) (hc : 0 < c) : neg a b c = decide (a < 0) := by
  unfold neg
  rw [decide_eq_false (show ¬ b < 0 by omega), decide_eq_false (show ¬ c < 0 by omega)]
  cases decide (a < 0) <;> rfl
theorem size_of {b : Int} (hb : 0 < b) : size b = b := by unfold size; rw [if_neg (by omega)]
/-- an amount's errors: of what may be asked, only that it is too great -/
theorem md_err {a b c mode : Int} (ha : fits a = true) (hb : fits b = true) (hc : fits c = true) (h0 : c ≠ 0) (h1 : 1 ≤ mode) (h5 : mode ≤ 5) : mdE a b c mode ≠ 0 → mdN a b c mode = 0 ∧ mdE a b c mode = 3 := by
  have hA : mdA a b c mode = true := by simp [mdA, ha, hb, hc, h1, h5]
  intro h
  by_cases hg : mdG a b c mode ≤ 1152921504606846976
  · exfalso; apply h; simp [mdE, hA, h0, hg]
  · simp [mdN, mdE, hA, h0, hg]
theorem down_q (a b c : Int) : mdG a b c 1 = mdQ a b c := by unfold mdG; simp [grow]
/-- there and back, by Down -/
theorem there_back {n f t : Int} (hn : fits n = true) (hf : 0 < f) (ht : 0 < t) (ff : fits f = true) (ft : fits t = true) (he : mdE n f t 1 = 0) :
    mdE (mdN n f t 1) t f 1 = 0 ∧
      ((n < 0 → mdN (mdN n f t 1) t f 1 ≤ 0 ∧ n ≤ mdN (mdN n f t 1) t f 1 ∧ mdN n f t 1 ≤ 0) ∧ (0 ≤ n → 0 ≤ mdN (mdN n f t 1) t f 1 ∧ mdN (mdN n f t 1) t f 1 ≤ n ∧ 0 ≤ mdN n f t 1)) := by
  obtain ⟨_, _, hg, hm⟩ := md_ok he
  rw [down_q] at hg hm
  rw [neg_of hf ht] at hm
  have q0 := mdQ_nonneg n f t
  -- sizes
  have hs : size (mdN n f t 1) = mdQ n f t := by
    rw [hm]
    by_cases h : n < 0
    · simp only [h, decide_true, if_true]; unfold size; split <;> omega
    · simp only [h, decide_false, Bool.false_eq_true, if_false]; unfold size; split <;> omega
  have hmf : fits (mdN n f t 1) = true := by
    rw [fits_true, hm]
    split <;> omega
  have hle : mdQ n f t * t.toNat ≤ (size n).toNat * f.toNat := by
    unfold mdQ
    rw [size_of hf, size_of ht]
    exact Nat.div_mul_le_self _ _
  have hq2 : mdQ (mdN n f t 1) t f ≤ (size n).toNat := by
    have e : mdQ (mdN n f t 1) t f = (mdQ n f t) * t.toNat / f.toNat := by
      show (size (mdN n f t 1)).toNat * (size t).toNat / (size f).toNat = _
      rw [hs, size_of hf, size_of ht]; rfl
    rw [e]
    have h1 : mdQ n f t * t.toNat / f.toNat ≤ (size n).toNat * f.toNat / f.toNat := Nat.div_le_div_right hle
    rw [Nat.mul_div_cancel _ (by omega)] at h1
    exact h1
  obtain ⟨n1, n2⟩ := fits_true.1 hn
  have hsn := size_le n1 n2
  have hsn0 := size_nonneg n
  have hA2 : mdA (mdN n f t 1) t f 1 = true := by simp [mdA, hmf, ff, ft]
  have hg2 : mdG (mdN n f t 1) t f 1 ≤ 1152921504606846976 := by rw [down_q]; omega
  have e2 : mdE (mdN n f t 1) t f 1 = 0 := by simp [mdE, hA2, show f ≠ 0 by omega, hg2]
  obtain ⟨_, _, _, hb⟩ := md_ok e2
  rw [down_q, neg_of ht hf] at hb
  have q2 := mdQ_nonneg (mdN n f t 1) t f
  generalize mdQ (mdN n f t 1) t f = Q2 at *
  generalize mdQ n f t = Q at *
  have hz : n < 0 → size n = -n := fun h => by unfold size; rw [if_pos h]
  have hz2 : 0 ≤ n → size n = n := fun h => by unfold size; rw [if_neg (by omega)]
  refine ⟨e2, fun h => ?_, fun h => ?_⟩
  · rw [hb]
    simp only [h, decide_true, if_true] at hm
    have := hz h
    rw [hm]
    by_cases c : (-(Q : Int)) < 0
    · simp only [c, decide_true, if_true]; omega
    · have hQ : Q = 0 := by omega
      subst hQ
      have : mdN n f t 1 = 0 := by rw [hm]; rfl
      simp only [c, decide_false, Bool.false_eq_true, if_false]
      -- nought turned back is nought
      have hbz : size (mdN n f t 1) = 0 := by rw [this]; rfl
      rw [this] at hb
      have hq0 : mdN 0 t f 1 = Q2 := by rw [hb]; rfl
      have hq1 : mdQ 0 t f = 0 := by unfold mdQ; simp [size]
      have := (md_ok (a := 0) (b := t) (c := f) (mode := 1) (by rw [‹mdN n f t 1 = 0›] at e2; exact e2)).2.2.2
      rw [down_q, hq1, neg_of ht hf] at this
      have h00 : mdN 0 t f 1 = 0 := by rw [this]; rfl
      omega
  · rw [hb]
    have hnn : ¬ n < 0 := by omega
    simp only [hnn, decide_false, Bool.false_eq_true, if_false] at hm
    have := hz2 h
    rw [hm]
    have c : ¬ ((Q : Int) < 0) := by omega
    simp only [c, decide_false, Bool.false_eq_true, if_false]
    omega

theorem grow_mono {q r r' c mode : Int} {n : Bool} (h0 : 0 ≤ r) (h : r ≤ r') (hg : grow q r c mode n = true) : grow q r' c mode n = true := by
  unfold grow at hg ⊢
  by_cases hr : r = 0
  · rw [if_pos hr] at hg; cases hg
  · rw [if_neg hr] at hg
    rw [if_neg (by omega)]
    by_cases h2 : mode = 2
    · rw [if_pos h2]
    · rw [if_neg h2] at hg ⊢
      by_cases h3 : mode = 3
      · rw [if_pos h3] at hg ⊢; exact hg
      · rw [if_neg h3] at hg ⊢
        by_cases h4 : mode = 4
        · rw [if_pos h4] at hg ⊢; exact hg
        · rw [if_neg h4] at hg ⊢
          by_cases h5 : mode = 5
          · rw [if_pos h5] at hg ⊢
            simp only [Bool.or_eq_true, Bool.and_eq_true, decide_eq_true_eq] at hg ⊢
            rcases hg with g | ⟨g1, g2⟩
            · left; omega
            · by_cases e : 2 * r' = c
              · right; exact ⟨e, g2⟩
              · left; omega
          · rw [if_neg h5] at hg; cases hg
/-- of two amounts of one sign the greater one's quotient is not less -/
theorem g_mono {a a' b c mode : Int} (hb : 0 < b) (hc : 0 < c) (hs : size a ≤ size a') (hn : neg a b c = neg a' b c) : mdG a b c mode ≤ mdG a' b c mode := by
  have h0 := size_nonneg a
  have hN : (size a).toNat * (size b).toNat ≤ (size a').toNat * (size b).toNat := Nat.mul_le_mul_right _ (by omega)
  have hcn : 0 < (size c).toNat := by rw [size_of hc]; omega
  have hq : mdQ a b c ≤ mdQ a' b c := Nat.div_le_div_right hN
  have e1 : (size c).toNat * mdQ a b c + mdR a b c = (size a).toNat * (size b).toNat := Nat.div_add_mod _ _
  have e2 : (size c).toNat * mdQ a' b c + mdR a' b c = (size a').toNat * (size b).toNat := Nat.div_add_mod _ _
  unfold mdG
  rw [← hn]
  rcases Nat.lt_or_ge (mdQ a b c) (mdQ a' b c) with g | g
  · split <;> split <;> omega
  · have he : mdQ a b c = mdQ a' b c := by omega
    rw [← he] at e2 ⊢
    have hr : (mdR a b c : Int) ≤ mdR a' b c := by omega
    by_cases hg : grow (mdQ a b c) (mdR a b c) (size c) mode (neg a b c) = true
    · rw [if_pos hg, if_pos (grow_mono (Int.natCast_nonneg _) hr hg)]; exact Int.le_refl _
    · rw [if_neg hg]; split <;> omega
theorem g_nonneg (a b c mode : Int) : 0 ≤ mdG a b c mode := by
  have := mdQ_nonneg a b c
  unfold mdG; split <;> omega
/-- more is turned into no less -/
theorem md_rises {a a' b c mode : Int} (hb : 0 < b) (hc : 0 < c) (h : a ≤ a') (e : mdE a b c mode = 0) (e' : mdE a' b c mode = 0) : mdN a b c mode ≤ mdN a' b c mode := by
  obtain ⟨_, _, _, h1⟩ := md_ok e
  obtain ⟨_, _, _, h2⟩ := md_ok e'
  rw [h1, h2]
  have g1 := g_nonneg a b c mode
  have g2 := g_nonneg a' b c mode
  have n1 := neg_of (a := a) hb hc
  have n2 := neg_of (a := a') hb hc
  by_cases s1 : a < 0
  · by_cases s2 : a' < 0
    · have hg := g_mono (a := a') (a' := a) (b := b) (c := c) (mode := mode) hb hc (by unfold size; rw [if_pos s1, if_pos s2]; omega) (by rw [n1, n2]; simp [s1, s2])
      rw [n1, n2]
      simp only [s1, s2, decide_true, if_true]
      omega
    · rw [n1, n2]
      simp only [s1, s2, decide_true, decide_false, if_true, Bool.false_eq_true, if_false]
      omega
  · have s2 : ¬ a' < 0 := by omega
    have hg := g_mono (a := a) (a' := a') (b := b) (c := c) (mode := mode) hb hc (by unfold size; rw [if_neg s1, if_neg s2]; omega) (by rw [n1, n2]; simp [s1, s2])
    rw [n1, n2]
    simp only [s1, s2, decide_false, Bool.false_eq_true, if_false]
    omega
end CM

/- Layer 9's mathematics: products, their prices, roundings and values. -/
namespace QM
structure Prod where
  name : ByteArray
  cur : Int
  mult : Int
  tick : Int
  low : Int
  high : Int
  phys : Bool
def zero : Prod := ⟨⟨#[]⟩, 0, 0, 0, 0, 0, false⟩
def within (n a b : Int) : Bool := decide (a ≤ n) && decide (n ≤ b)
theorem within_true {n a b : Int} : within n a b = true ↔ a ≤ n ∧ n ≤ b := by simp [within]
theorem within_false {n a b : Int} : within n a b = false ↔ n < a ∨ b < n := by rw [Bool.eq_false_iff, ne_eq, within_true]; omega
def nameOk (p : Prod) : Bool := WM.name p.name.data.toList
def rangeOk (p : Prod) : Bool := within p.low (-16777216) 16777216 && within p.high (-16777216) 16777216 && decide (p.low ≤ p.high) && (p.low.tmod p.tick == 0) && (p.high.tmod p.tick == 0)
def checkE (p : Prod) : Int :=
  if nameOk p = false then 10 else if within p.cur 0 7 = false then 25 else if within p.mult 1 4096 = false then 2 else if within p.tick 1 16777216 = false then 16 else if rangeOk p = false then 17 else 0
theorem check_parts {p : Prod} (h : checkE p = 0) : nameOk p = true ∧ (0 ≤ p.cur ∧ p.cur ≤ 7) ∧ (1 ≤ p.mult ∧ p.mult ≤ 4096) ∧ (1 ≤ p.tick ∧ p.tick ≤ 16777216) ∧
    (-16777216 ≤ p.low ∧ p.low ≤ p.high ∧ p.high ≤ 16777216) ∧ p.low.tmod p.tick = 0 ∧ p.high.tmod p.tick = 0 := by
  unfold checkE at h
  split at h
  · cases h
  · split at h
    · cases h
    · split at h
      · cases h
      · split at h
        · cases h
        · split at h
          · cases h
          · rename_i h1 h2 h3 h4 h5
            rw [Bool.not_eq_false] at h1 h2 h3 h4 h5
            rw [within_true] at h2 h3 h4
            unfold rangeOk at h5
            simp only [Bool.and_eq_true, within_true, decide_eq_true_eq, beq_iff_eq] at h5
            obtain ⟨⟨⟨⟨a, b⟩, c⟩, d⟩, e⟩ := h5
            exact ⟨h1, h2, h3, h4, ⟨a.1, c, b.2⟩, d, e⟩
theorem check_cases (p : Prod) : checkE p = 0 ∨ checkE p = 10 ∨ checkE p = 25 ∨ checkE p = 2 ∨ checkE p = 16 ∨ checkE p = 17 := by
  unfold checkE
  split
  · simp
  · split
    · simp
    · split
      · simp
      · split
        · simp
        · split <;> simp

/-- a list of products: product by product -/
def lessB (s t : ByteArray) : Bool := Go.Op.bytesLess s.toList t.toList
def pAt (l : List Prod) (k : Nat) : Prod := l.getD k zero
/-- the error of product k, or that its name is not behind the one ahead -/
def oneE (l : List Prod) (k : Nat) : Int := if checkE (pAt l k) ≠ 0 then checkE (pAt l k) else if 0 < k ∧ lessB (pAt l (k - 1)).name (pAt l k).name = false then 12 else 0
def uptoE (l : List Prod) : Nat → Int
  | 0 => 0
  | k + 1 => if uptoE l k = 0 then oneE l k else uptoE l k
def allE (l : List Prod) : Int := if 32 < l.length then 8 else uptoE l l.length
theorem upto_stay {l : List Prod} {k : Nat} (h : uptoE l k ≠ 0) : ∀ m, uptoE l (k + m) = uptoE l k := by
  intro m
  induction m with
  | zero => rfl
  | succ m ih => rw [← Nat.add_assoc, uptoE, ih, if_neg h]
theorem all_stop {l : List Prod} {k : Nat} (hl : ¬ 32 < l.length) (hk : k < l.length) (h : uptoE l k = 0) (h2 : oneE l k ≠ 0) : allE l = oneE l k := by
  have e : uptoE l (k + 1) = oneE l k := by rw [uptoE, if_pos h]
  unfold allE
  rw [if_neg hl]
  have := @upto_stay l (k + 1) (by rw [e]; exact h2) (l.length - (k + 1))
  rw [show k + 1 + (l.length - (k + 1)) = l.length by omega] at this
  rw [this, e]
theorem upto_step {l : List Prod} {k : Nat} (h : uptoE l k = 0) (h2 : oneE l k = 0) : uptoE l (k + 1) = 0 := by rw [uptoE, if_pos h]; exact h2
theorem upto_back {l : List Prod} {n : Nat} (h : uptoE l n = 0) : ∀ k, k < n → oneE l k = 0 := by
  induction n with
  | zero => intro k hk; omega
  | succ n ih =>
    intro k hk
    rw [uptoE] at h
    by_cases hn : uptoE l n = 0
    · rw [if_pos hn] at h
      rcases Nat.lt_or_ge k n with g | g
      · exact ih hn k g
      · obtain rfl : k = n := by omega
        exact h
    · rw [if_neg hn] at h; exact absurd h hn
theorem all_ok {l : List Prod} (h : allE l = 0) : l.length ≤ 32 ∧ ∀ k, k < l.length → checkE (pAt l k) = 0 := by
  unfold allE at h
  split at h
  · cases h
  · refine ⟨by omega, fun k hk => ?_⟩
    have := upto_back h k hk
    unfold oneE at this
    by_cases hc : checkE (pAt l k) = 0
    · exact hc
    · rw [if_pos hc] at this; exact absurd this hc

def priceE (p : Prod) (x : Int) : Int := if checkE p ≠ 0 then checkE p else if within x p.low p.high = false then 17 else if x.tmod p.tick ≠ 0 then 16 else 0
def roundE (p : Prod) (x mode : Int) : Int := if checkE p ≠ 0 then checkE p else if within x (-16777216) 16777216 = false then 17 else if within mode 1 5 = false then 2 else 0
def roundN (p : Prod) (x mode : Int) : Int := if roundE p x mode = 0 then CM.clamp (CM.mdN x 1 p.tick mode * p.tick) p.low p.high else 0
def valueE (p : Prod) (x q : Int) : Int := if checkE p ≠ 0 then checkE p else if within x (-33554432) 33554432 = false then 17 else if within q (-1048576) 1048576 = false then 18 else 0
def valueN (p : Prod) (x q : Int) : Int := if valueE p x q = 0 then x * p.mult * q else 0

theorem price_zero {p : Prod} {x : Int} : priceE p x = 0 ↔ checkE p = 0 ∧ (p.low ≤ x ∧ x ≤ p.high) ∧ x.tmod p.tick = 0 := by
  unfold priceE
  constructor
  · intro h
    split at h
    · rename_i h1; exact absurd h h1
    · rename_i h1
      split at h
      · cases h
      · split at h
        · cases h
        · rename_i h2 h3
          exact ⟨Classical.not_not.1 h1, within_true.1 (by simpa using h2), Classical.not_not.1 h3⟩
  · rintro ⟨h1, h2, h3⟩
    rw [if_neg (by simp [h1]), if_neg (by rw [within_true.2 h2]; simp), if_neg (by simp [h3])]
theorem round_zero {p : Prod} {x mode : Int} : roundE p x mode = 0 ↔ checkE p = 0 ∧ (-16777216 ≤ x ∧ x ≤ 16777216) ∧ (1 ≤ mode ∧ mode ≤ 5) := by
  unfold roundE
  constructor
  · intro h
    split at h
    · rename_i h1; exact absurd h h1
    · rename_i h1
      split at h
      · cases h
      · split at h
        · cases h
        · rename_i h2 h3
          exact ⟨Classical.not_not.1 h1, within_true.1 (by simpa using h2), within_true.1 (by simpa using h3)⟩
  · rintro ⟨h1, h2, h3⟩
    rw [if_neg (by simp [h1]), if_neg (by rw [within_true.2 h2]; simp), if_neg (by rw [within_true.2 h3]; simp)]
theorem value_zero {p : Prod} {x q : Int} : valueE p x q = 0 ↔ checkE p = 0 ∧ (-33554432 ≤ x ∧ x ≤ 33554432) ∧ (-1048576 ≤ q ∧ q ≤ 1048576) := by
  unfold valueE
  constructor
  · intro h
    split at h
    · rename_i h1; exact absurd h h1
    · rename_i h1
      split at h
      · cases h
      · split at h
        · cases h
        · rename_i h2 h3
          exact ⟨Classical.not_not.1 h1, within_true.1 (by simpa using h2), within_true.1 (by simpa using h3)⟩
  · rintro ⟨h1, h2, h3⟩
    rw [if_neg (by simp [h1]), if_neg (by rw [within_true.2 h2]; simp), if_neg (by rw [within_true.2 h3]; simp)]

theorem fits_of {n : Int} (h1 : -33554432 ≤ n) (h2 : n ≤ 33554432) : CM.fits n = true := by rw [CM.fits_true]; omega
/-- an amount divided by what divides it -/
theorem md_exact {q t mode : Int} (ht : 1 ≤ t) (h : CM.fits (q * t) = true) (hq : CM.fits q = true) (ht2 : CM.fits t = true) (h1 : 1 ≤ mode) (h5 : mode ≤ 5) : CM.mdN (q * t) 1 t mode = q ∧ CM.mdE (q * t) 1 t mode = 0 := by
  have hN : (CM.size (q * t)).toNat * (CM.size 1).toNat = (CM.size q).toNat * (CM.size t).toNat := by
    have e : CM.size (q * t) = CM.size q * t := by
      unfold CM.size
      by_cases hq0 : q < 0
      · have : q * t < 0 := Int.mul_neg_of_neg_of_pos hq0 (by omega)
        rw [if_pos this, if_pos hq0, Int.neg_mul]
      · have : ¬ q * t < 0 := by
          have := Int.mul_nonneg (show (0 : Int) ≤ q by omega) (show (0 : Int) ≤ t by omega)
          omega
        rw [if_neg this, if_neg hq0]
    have s0 := CM.size_nonneg q
    have e1 : CM.size 1 = 1 := by decide
    rw [e, e1, CM.size_of (show (0 : Int) < t by omega), Int.toNat_mul s0 (by omega)]
    simp
  have st : (CM.size t).toNat = t.toNat := by rw [CM.size_of (by omega)]
  have hQ : CM.mdQ (q * t) 1 t = (CM.size q).toNat := by
    unfold CM.mdQ
    rw [hN, Nat.mul_div_cancel _ (by rw [st]; omega)]
  have hR : CM.mdR (q * t) 1 t = 0 := by
    unfold CM.mdR
    rw [hN, Nat.mul_mod_left]
  have hG : CM.mdG (q * t) 1 t mode = CM.size q := by
    have s0 := CM.size_nonneg q
    unfold CM.mdG
    rw [hR, hQ]
    have : CM.grow ((CM.size q).toNat : Nat) (0 : Nat) (CM.size t) mode (CM.neg (q * t) 1 t) = false := by simp [CM.grow]
    rw [this]
    simp
    omega
  have f1 : CM.fits 1 = true := by decide
  have hA : CM.mdA (q * t) 1 t mode = true := by simp [CM.mdA, h, f1, ht2, h1, h5]
  obtain ⟨q1, q2⟩ := CM.fits_true.1 hq
  have hs := CM.size_le q1 q2
  have hE : CM.mdE (q * t) 1 t mode = 0 := by simp [CM.mdE, hA, show t ≠ 0 by omega, hG, hs]
  refine ⟨?_, hE⟩
  obtain ⟨_, _, _, hm⟩ := CM.md_ok hE
  rw [hm, hG, CM.neg_of (by omega) (by omega)]
  by_cases hq0 : q < 0
  · have : q * t < 0 := Int.mul_neg_of_neg_of_pos hq0 (by omega)
    have e : CM.size q = -q := by unfold CM.size; rw [if_pos hq0]
    simp only [this, decide_true, if_true]; omega
  · have : ¬ q * t < 0 := by
      have := Int.mul_nonneg (show (0 : Int) ≤ q by omega) (show (0 : Int) ≤ t by omega)
      omega
    have e : CM.size q = q := by unfold CM.size; rw [if_neg hq0]
    simp only [this, decide_false, Bool.false_eq_true, if_false]; omega
theorem clamp_mult {n low high t : Int} (hl : low ≤ high) (h1 : n.tmod t = 0) (h2 : low.tmod t = 0) (h3 : high.tmod t = 0) : (CM.clamp n low high).tmod t = 0 ∧ low ≤ CM.clamp n low high ∧ CM.clamp n low high ≤ high := by
  unfold CM.clamp
  split
  · exact ⟨h2, by omega, hl⟩
  · split
    · exact ⟨h3, hl, by omega⟩
    · exact ⟨h1, by omega, by omega⟩
/-- what is rounded may be a price -/
theorem round_ok {p : Prod} {x mode : Int} (h : roundE p x mode = 0) : priceE p (roundN p x mode) = 0 := by
  obtain ⟨hc, _, _⟩ := round_zero.1 h
  obtain ⟨_, _, _, _, ⟨_, hl, _⟩, m1, m2⟩ := check_parts hc
  have e : roundN p x mode = CM.clamp (CM.mdN x 1 p.tick mode * p.tick) p.low p.high := by unfold roundN; rw [if_pos h]
  rw [price_zero, e]
  obtain ⟨a, b, c⟩ := clamp_mult (n := CM.mdN x 1 p.tick mode * p.tick) hl (Int.mul_tmod_left _ _) m1 m2
  exact ⟨hc, ⟨b, c⟩, a⟩
/-- a price that may be is rounded to itself -/
theorem round_same {p : Prod} {x mode : Int} (h : priceE p x = 0) (h1 : 1 ≤ mode) (h5 : mode ≤ 5) : roundE p x mode = 0 ∧ roundN p x mode = x := by
  obtain ⟨hc, ⟨x1, x2⟩, hm⟩ := price_zero.1 h
  obtain ⟨_, _, _, ⟨t1, t2⟩, ⟨l1, l2, l3⟩, _, _⟩ := check_parts hc
  have hE : roundE p x mode = 0 := round_zero.2 ⟨hc, ⟨by omega, by omega⟩, h1, h5⟩
  refine ⟨hE, ?_⟩
  have e : roundN p x mode = CM.clamp (CM.mdN x 1 p.tick mode * p.tick) p.low p.high := by unfold roundN; rw [if_pos hE]
  obtain ⟨q, hq⟩ := Int.dvd_of_tmod_eq_zero hm
  rw [Int.mul_comm] at hq
  have hqb : -16777216 ≤ q ∧ q ≤ 16777216 := by
    constructor
    · rcases Int.lt_or_le q (-16777216) with g | g
      · exfalso
        have : q * p.tick ≤ q * 1 := Int.mul_le_mul_of_nonpos_left (by omega) (by omega)
        omega
      · exact g
    · rcases Int.lt_or_le 16777216 q with g | g
      · exfalso
        have : q * 1 ≤ q * p.tick := Int.mul_le_mul_of_nonneg_left (by omega) (by omega)
        omega
      · exact g
  have hx := (md_exact (q := q) (t := p.tick) (mode := mode) t1 (by rw [← hq]; exact fits_of (by omega) (by omega)) (fits_of (by omega) (by omega)) (fits_of (by omega) (by omega)) h1 h5).1
  rw [e, hq, hx, ← hq]
  unfold CM.clamp
  rw [if_neg (by omega), if_neg (by omega)]
/-- Values of lots add up -/
theorem value_neg {p : Prod} {x q : Int} (h : valueE p x q = 0) (h2 : valueE p (-x) q = 0) : valueN p (-x) q = -valueN p x q := by
  unfold valueN
  rw [if_pos h, if_pos h2]
  simp [Int.neg_mul]
theorem value_add {p : Prod} {x a b : Int} (h : valueE p x a = 0) (h2 : valueE p x b = 0) : (valueE p x (a + b) = 0 → valueN p x (a + b) = valueN p x a + valueN p x b) ∧ (valueE p x (a + b) = 0 ∨ valueE p x (a + b) = 18) := by
  refine ⟨fun h3 => ?_, ?_⟩
  · unfold valueN
    rw [if_pos h, if_pos h2, if_pos h3, Int.mul_add]
  · obtain ⟨hc, hx, _⟩ := value_zero.1 h
    unfold valueE
    rw [if_neg (by simp [hc]), if_neg (by rw [within_true.2 hx]; simp)]
    split <;> simp
theorem value_range {p : Prod} {x q : Int} (h : valueE p x q = 0) : (-137438953472 ≤ x * p.mult ∧ x * p.mult ≤ 137438953472) ∧ (-144115188075855872 ≤ x * p.mult * q ∧ x * p.mult * q ≤ 144115188075855872) := by
  obtain ⟨hc, ⟨x1, x2⟩, q1, q2⟩ := value_zero.1 h
  obtain ⟨_, _, ⟨m1, m2⟩, _⟩ := check_parts hc
  have a : -137438953472 ≤ x * p.mult ∧ x * p.mult ≤ 137438953472 := by
    constructor
    · have g1 : -33554432 * p.mult ≤ x * p.mult := Int.mul_le_mul_of_nonneg_right x1 (by omega)
      omega
    · have g1 : x * p.mult ≤ 33554432 * p.mult := Int.mul_le_mul_of_nonneg_right x2 (by omega)
      omega
  refine ⟨a, ?_⟩
  obtain ⟨a1, a2⟩ := a
  generalize x * p.mult = y at *
  have b1 : (y * q).natAbs ≤ 137438953472 * 1048576 := by
    rw [Int.natAbs_mul]
    exact Nat.mul_le_mul (by omega) (by omega)
  omega
end QM
