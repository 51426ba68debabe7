/- Layer 19's mathematics: which points may be, the known ones about a day, the price of a day. -/
import Derived.Test.YtagmknahmkniaaaCurveMath
namespace UM
set_option linter.unusedVariables false
/-- points in order, behind an earliest day -/
def Ord : List Pt → Int → Prop
  | [], _ => True
  | p :: t, e => e ≤ p.exp ∧ p.exp ≤ 73048 ∧ (p.known = true → isP p.price = true) ∧ Ord t (p.exp + 1)
theorem rest_ord {l : List Pt} : ∀ {e : Int} {k : Bool}, restE l e k = 0 ↔ Ord l e ∧ (k = true ∨ ∃ p ∈ l, p.known = true) := by
  induction l with
  | nil =>
    intro e k
    cases k <;> simp [restE, Ord]
  | cons p t ih =>
    intro e k
    rw [restE]
    cases h1 : QM.within p.exp e 73048
    · rw [if_pos rfl]
      constructor
      · intro h; cases h
      · rintro ⟨h, -⟩
        have := QM.within_false.1 h1
        obtain ⟨a, b, -⟩ := h
        omega
    · have g1 := QM.within_true.1 h1
      rw [if_neg (by simp)]
      by_cases h2 : p.known = true ∧ isP p.price = false
      · rw [if_pos h2]
        constructor
        · intro h; cases h
        · rintro ⟨h, -⟩
          obtain ⟨a, b, c, -⟩ := h
          rw [c h2.1] at h2; cases h2.2
      · rw [if_neg h2, ih]
        have h3 : p.known = true → isP p.price = true := by
          intro h
          cases h4 : isP p.price
          · exact absurd ⟨h, h4⟩ h2
          · rfl
        constructor
        · rintro ⟨h, h4⟩
          refine ⟨⟨g1.1, g1.2, h3, h⟩, ?_⟩
          rcases h4 with h4 | ⟨q, h4, h5⟩
          · cases hk : k
            · rw [hk] at h4; exact .inr ⟨p, List.mem_cons_self, by simpa using h4⟩
            · exact .inl rfl
          · exact .inr ⟨q, List.mem_cons_of_mem _ h4, h5⟩
        · rintro ⟨⟨_, _, _, h⟩, h4⟩
          refine ⟨h, ?_⟩
          rcases h4 with rfl | ⟨q, h4, h5⟩
          · exact .inl (by simp)
          · rcases List.mem_cons.1 h4 with rfl | h4
            · exact .inl (by simp [h5])
            · exact .inr ⟨q, h4, h5⟩
structure Good (l : List Pt) : Prop where
  len : 1 ≤ l.length ∧ l.length ≤ 128
  ord : Ord l 0
  some : ∃ p ∈ l, p.known = true
theorem check_good {l : List Pt} : checkE l = 0 ↔ Good l := by
  unfold checkE
  cases h : QM.within l.length 1 128
  · rw [if_pos rfl]
    constructor
    · intro h; cases h
    · intro g
      have := g.len
      have := QM.within_false.1 h
      omega
  · have h' := QM.within_true.1 h
    rw [if_neg (by simp), rest_ord]
    constructor
    · rintro ⟨a, b⟩
      exact ⟨by omega, a, by simpa using b⟩
    · intro g
      exact ⟨g.ord, .inr g.some⟩
theorem Ord.mem {l : List Pt} : ∀ {e : Int}, Ord l e → ∀ p ∈ l, e ≤ p.exp ∧ p.exp ≤ 73048 ∧ (p.known = true → -16777216 ≤ p.price ∧ p.price ≤ 16777216) := by
  induction l with
  | nil => intro e _ p hp; cases hp
  | cons q t ih =>
    rintro e ⟨a, b, c, d⟩ p hp
    rcases List.mem_cons.1 hp with rfl | hp
    · exact ⟨a, b, fun h => isP_true.1 (c h)⟩
    · have := ih d p hp
      exact ⟨by omega, this.2⟩
/-- of two points of the list with one day there is one -/
theorem Ord.one {l : List Pt} : ∀ {e : Int}, Ord l e → ∀ p ∈ l, ∀ q ∈ l, p.exp = q.exp → p = q := by
  induction l with
  | nil => intro e _ p hp; cases hp
  | cons x t ih =>
    rintro e ⟨a, b, c, d⟩ p hp q hq h
    rcases List.mem_cons.1 hp with rfl | hp'
    · rcases List.mem_cons.1 hq with rfl | hq'
      · rfl
      · have := d.mem q hq'; omega
    · rcases List.mem_cons.1 hq with rfl | hq'
      · have := d.mem p hp'; omega
      · exact ih d p hp' q hq' h
/-- the last known point up to a day, the first known point from it on -/
def lowK (l : List Pt) (day : Int) : Pt := l.foldl (fun a p => if p.known && decide (p.exp ≤ day) then p else a) zero
def highK (l : List Pt) (day : Int) : Pt := l.foldr (fun p b => if p.known && decide (day ≤ p.exp) then p else b) zero
theorem low_nil (day : Int) : lowK [] day = zero := rfl
theorem low_step {l : List Pt} {k : Nat} (h : k < l.length) (day : Int) : lowK (l.take (k + 1)) day = if (pAt l k).known && decide ((pAt l k).exp ≤ day) then pAt l k else lowK (l.take k) day := by
  unfold lowK; rw [List.take_succ_eq_append_getElem h, List.foldl_append, pAt_get h]; rfl
theorem high_step {l : List Pt} {k : Nat} (h : k < l.length) (day : Int) : highK (l.drop k) day = if (pAt l k).known && decide (day ≤ (pAt l k).exp) then pAt l k else highK (l.drop (k + 1)) day := by
  unfold highK; rw [List.drop_eq_getElem_cons h, List.foldr_cons, pAt_get h]
theorem high_end (l : List Pt) (day : Int) : highK (l.drop l.length) day = zero := by rw [List.drop_length]; rfl
theorem low_cases (l : List Pt) (day : Int) : (lowK l day = zero ∧ ∀ p ∈ l, p.known = true → day < p.exp) ∨ (lowK l day ∈ l ∧ (lowK l day).known = true ∧ (lowK l day).exp ≤ day) := by
  suffices h : ∀ k, k ≤ l.length → (lowK (l.take k) day = zero ∧ ∀ p ∈ l.take k, p.known = true → day < p.exp) ∨ (lowK (l.take k) day ∈ l ∧ (lowK (l.take k) day).known = true ∧ (lowK (l.take k) day).exp ≤ day) by
    have := h l.length (Nat.le_refl _)
    rwa [List.take_length] at this
  intro k
  induction k with
  | zero => intro _; exact .inl ⟨rfl, by simp⟩
  | succ k ih =>
    intro hk
    rw [low_step (by omega)]
    split
    · rename_i g
      simp only [Bool.and_eq_true, decide_eq_true_eq] at g
      exact .inr ⟨by rw [pAt_get (by omega)]; exact List.getElem_mem _, g.1, g.2⟩
    · rename_i g
      rcases ih (by omega) with ⟨h1, h2⟩ | h
      · refine .inl ⟨h1, ?_⟩
        intro p hp hpk
        rw [List.take_succ_eq_append_getElem (by omega)] at hp
        rcases List.mem_append.1 hp with hp | hp
        · exact h2 p hp hpk
        · rw [List.mem_singleton, ← pAt_get (by omega)] at hp
          subst hp
          simp only [Bool.and_eq_true, decide_eq_true_eq, hpk, true_and] at g
          omega
      · exact .inr h
theorem high_cases (l : List Pt) (day : Int) : (highK l day = zero ∧ ∀ p ∈ l, p.known = true → p.exp < day) ∨ (highK l day ∈ l ∧ (highK l day).known = true ∧ day ≤ (highK l day).exp) := by
  induction l with
  | nil => exact .inl ⟨rfl, by simp⟩
  | cons p t ih =>
    have e : highK (p :: t) day = if p.known && decide (day ≤ p.exp) then p else highK t day := rfl
    rw [e]
    split
    · rename_i g
      simp only [Bool.and_eq_true, decide_eq_true_eq] at g
      exact .inr ⟨List.mem_cons_self, g.1, g.2⟩
    · rename_i g
      rcases ih with ⟨h1, h2⟩ | ⟨h1, h2⟩
      · refine .inl ⟨h1, ?_⟩
        intro q hq hqk
        rcases List.mem_cons.1 hq with rfl | hq
        · simp only [Bool.and_eq_true, decide_eq_true_eq, hqk, true_and] at g
          omega
        · exact h2 q hq hqk
      · exact .inr ⟨List.mem_cons_of_mem _ h1, h2⟩
/-- a known point up to the day is not behind the last of them -/
theorem low_last {l : List Pt} : ∀ {e : Int}, Ord l e → ∀ (z : Pt) (day : Int), ∀ p ∈ l, p.known = true → p.exp ≤ day → p.exp ≤ (l.foldl (fun a p => if p.known && decide (p.exp ≤ day) then p else a) z).exp := by
  induction l with
  | nil => intro e _ z day p hp; cases hp
  | cons q t ih =>
    rintro e ⟨a, b, c, d⟩ z day p hp hk hle
    rw [List.foldl_cons]
    rcases List.mem_cons.1 hp with rfl | hp
    · rw [if_pos (by simp [hk, hle])]
      clear ih hp
      suffices h : ∀ (t : List Pt) (e : Int) (z : Pt), Ord t e → z.exp < e → z.exp ≤ (t.foldl (fun a p => if p.known && decide (p.exp ≤ day) then p else a) z).exp by exact h t _ _ d (by omega)
      intro t
      induction t with
      | nil => intro e z _ _; exact Int.le_refl _
      | cons q t ih =>
        rintro e z ⟨a, b, c, d⟩ hz
        rw [List.foldl_cons]
        split
        · have := ih (q.exp + 1) q d (by omega); omega
        · exact ih (q.exp + 1) z d (by omega)
    · exact ih d _ day p hp hk hle
theorem high_first {l : List Pt} : ∀ {e : Int}, Ord l e → ∀ (day : Int), ∀ p ∈ l, p.known = true → day ≤ p.exp → (highK l day).exp ≤ p.exp := by
  induction l with
  | nil => intro e _ day p hp; cases hp
  | cons q t ih =>
    rintro e ⟨a, b, c, d⟩ day p hp hk hle
    have ee : highK (q :: t) day = if q.known && decide (day ≤ q.exp) then q else highK t day := rfl
    rw [ee]
    rcases List.mem_cons.1 hp with rfl | hp
    · rw [if_pos (by simp [hk, hle])]; omega
    · split
      · have := d.mem p hp; omega
      · exact ih d day p hp hk hle
/-- the two points about a day -/
def arA (l : List Pt) (day : Int) : Pt := if (lowK l day).known = true then lowK l day else highK l day
def arB (l : List Pt) (day : Int) : Pt := if (lowK l day).known = true ∧ (highK l day).known = false then lowK l day else highK l day
def lineV (a b : Pt) (day : Int) : Int := a.price * (b.exp - a.exp) + (b.price - a.price) * (day - a.exp)
def tweenK (a b : Pt) (day tick : Int) : Int := K (lineV a b day) ((b.exp - a.exp) * tick)
def tweenN (a b : Pt) (day tick : Int) : Int := tweenK a b day tick * tick
def priceN (l : List Pt) (day tick : Int) : Int := if arA l day = arB l day then (arA l day).price else tweenN (arA l day) (arB l day) day tick
/-- two points between which a price may be looked for -/
structure Pair (a b : Pt) (day tick : Int) : Prop where
  da : 0 ≤ a.exp ∧ a.exp ≤ day
  db : day ≤ b.exp ∧ b.exp ≤ 73048
  lt : a.exp < b.exp
  pa : -16777216 ≤ a.price ∧ a.price ≤ 16777216
  pb : -16777216 ≤ b.price ∧ b.price ≤ 16777216
  tk : 1 ≤ tick ∧ tick ≤ 16777216
structure Lined (a b : Pt) (day tick : Int) : Prop where
  x : -1225542074368 ≤ a.price * (b.exp - a.exp) ∧ a.price * (b.exp - a.exp) ≤ 1225542074368
  y : -2451084148736 ≤ (b.price - a.price) * (day - a.exp) ∧ (b.price - a.price) * (day - a.exp) ≤ 2451084148736
  c : 1 ≤ (b.exp - a.exp) * tick ∧ (b.exp - a.exp) * tick ≤ 1225542074368
theorem mul_in {a b M N : Int} (ha : -M ≤ a ∧ a ≤ M) (hb : 0 ≤ b ∧ b ≤ N) (hM : 0 ≤ M) : -(M * N) ≤ a * b ∧ a * b ≤ M * N := by
  have h1 : a * b ≤ M * b := Int.mul_le_mul_of_nonneg_right ha.2 hb.1
  have h2 : -M * b ≤ a * b := Int.mul_le_mul_of_nonneg_right ha.1 hb.1
  have h3 : M * b ≤ M * N := Int.mul_le_mul_of_nonneg_left hb.2 hM
  rw [Int.neg_mul] at h2
  omega
theorem Pair.lined {a b : Pt} {day tick : Int} (h : Pair a b day tick) : Lined a b day tick := by
  obtain ⟨da, db, lt, pa, pb, tk⟩ := h
  have h1 := mul_in (a := a.price) (b := b.exp - a.exp) (M := 16777216) (N := 73048) pa ⟨by omega, by omega⟩ (by omega)
  have h2 := mul_in (a := b.price - a.price) (b := day - a.exp) (M := 33554432) (N := 73048) ⟨by omega, by omega⟩ ⟨by omega, by omega⟩ (by omega)
  have h3 := mul_in (a := b.exp - a.exp) (b := tick) (M := 73048) (N := 16777216) ⟨by omega, by omega⟩ ⟨by omega, by omega⟩ (by omega)
  have h4 : 1 * 1 ≤ (b.exp - a.exp) * tick := Int.mul_le_mul (by omega) tk.1 (by omega) (by omega)
  exact ⟨⟨by omega, by omega⟩, ⟨by omega, by omega⟩, ⟨by omega, by omega⟩⟩
/-- the line lies between the two prices -/
theorem Pair.line {a b : Pt} {day tick : Int} (h : Pair a b day tick) {lo hi : Int} (hl : lo ≤ a.price ∧ lo ≤ b.price) (hh : a.price ≤ hi ∧ b.price ≤ hi) :
    lo * (b.exp - a.exp) ≤ lineV a b day ∧ lineV a b day ≤ hi * (b.exp - a.exp) := by
  obtain ⟨da, db, lt, pa, pb, tk⟩ := h
  obtain ⟨s, hs⟩ : ∃ s, s = b.exp - day := ⟨_, rfl⟩
  obtain ⟨t, ht⟩ : ∃ t, t = day - a.exp := ⟨_, rfl⟩
  have e1 : b.exp - a.exp = s + t := by omega
  have e : lineV a b day = a.price * s + b.price * t := by
    unfold lineV
    rw [e1, ← ht, Int.mul_add, Int.sub_mul]; omega
  rw [e, e1, Int.mul_add, Int.mul_add]
  have a1 : lo * s ≤ a.price * s := Int.mul_le_mul_of_nonneg_right hl.1 (by omega)
  have a2 : lo * t ≤ b.price * t := Int.mul_le_mul_of_nonneg_right hl.2 (by omega)
  have a3 : a.price * s ≤ hi * s := Int.mul_le_mul_of_nonneg_right hh.1 (by omega)
  have a4 : b.price * t ≤ hi * t := Int.mul_le_mul_of_nonneg_right hh.2 (by omega)
  omega
theorem Pair.tween {a b : Pt} {day tick : Int} (h : Pair a b day tick) {lo hi : Int} (hl : lo ≤ a.price ∧ lo ≤ b.price) (hh : a.price ≤ hi ∧ b.price ≤ hi) :
    CM.mdE (lineV a b day) 1 ((b.exp - a.exp) * tick) 5 = 0 ∧ 2 * tweenN a b day tick ≤ 2 * hi + tick ∧ 2 * lo - tick ≤ 2 * tweenN a b day tick := by
  have L := h.lined
  obtain ⟨l1, l2⟩ := h.line hl hh
  have eV : lineV a b day = a.price * (b.exp - a.exp) + (b.price - a.price) * (day - a.exp) := rfl
  obtain ⟨x, y, c⟩ := L
  obtain ⟨e, n1, n2⟩ := near_half (v := lineV a b day) (c := (b.exp - a.exp) * tick) (by omega) (by omega) (by omega) (by omega)
  refine ⟨e, ?_⟩
  obtain ⟨da, db, lt, pa, pb, tk⟩ := h
  have ek : K (lineV a b day) ((b.exp - a.exp) * tick) * ((b.exp - a.exp) * tick) = tweenN a b day tick * (b.exp - a.exp) := by
    unfold tweenN tweenK
    rw [Int.mul_assoc, Int.mul_comm tick]
  rw [ek] at n1 n2
  generalize tweenN a b day tick = n at *
  generalize lineV a b day = v at *
  obtain ⟨s, hs⟩ : ∃ s, b.exp - a.exp = s := ⟨_, rfl⟩
  have s0 : 0 < s := by omega
  rw [hs] at n1 n2 l1 l2
  constructor
  · apply Int.le_of_mul_le_mul_right (a := s) _ s0
    rw [Int.add_mul, Int.mul_assoc, Int.mul_assoc, Int.mul_comm tick s]; omega
  · apply Int.le_of_mul_le_mul_right (a := s) _ s0
    rw [Int.sub_mul, Int.mul_assoc, Int.mul_assoc, Int.mul_comm tick s]; omega
theorem Pair.bounds {a b : Pt} {day tick : Int} (h : Pair a b day tick) : CM.mdE (lineV a b day) 1 ((b.exp - a.exp) * tick) 5 = 0 ∧
    (-33554432 ≤ tweenK a b day tick ∧ tweenK a b day tick ≤ 33554432) ∧ (-33554432 ≤ tweenN a b day tick ∧ tweenN a b day tick ≤ 33554432) := by
  obtain ⟨e, t1, t2⟩ := h.tween (lo := -16777216) (hi := 16777216) ⟨h.pa.1, h.pb.1⟩ ⟨h.pa.2, h.pb.2⟩
  have tk := h.tk
  have hn : -33554432 ≤ tweenN a b day tick ∧ tweenN a b day tick ≤ 33554432 := ⟨by omega, by omega⟩
  refine ⟨e, ?_, hn⟩
  unfold tweenN at hn
  generalize tweenK a b day tick = k at *
  rcases Int.le_total 0 k with h0 | h0
  · have : k * 1 ≤ k * tick := Int.mul_le_mul_of_nonneg_left tk.1 h0
    omega
  · have : k * tick ≤ k * 1 := Int.mul_le_mul_of_nonpos_left h0 tk.1
    omega
end UM
