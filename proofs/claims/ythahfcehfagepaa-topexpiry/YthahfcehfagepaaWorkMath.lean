/- Working days: the n-th one this way and that, and how many there are. -/
import Derived.Below
namespace KM
set_option linter.unusedVariables false

/-- how many of the k days from a on work -/
def cnt (W : Int → Bool) (a : Int) : Nat → Nat
  | 0 => 0
  | k + 1 => cnt W a k + (if W (a + k) = true then 1 else 0)
theorem cnt_add (W : Int → Bool) (a : Int) (j k : Nat) : cnt W a (j + k) = cnt W a j + cnt W (a + j) k := by
  induction k with
  | zero => rfl
  | succ k ih =>
    show cnt W a (j + k) + (if W (a + (j + k : Nat)) = true then 1 else 0) = cnt W a j + (cnt W (a + j) k + (if W (a + j + k) = true then 1 else 0))
    rw [ih, show a + ((j + k : Nat) : Int) = a + j + k by omega]; omega
theorem cnt_front (W : Int → Bool) (a : Int) (k : Nat) : cnt W a (k + 1) = (if W a = true then 1 else 0) + cnt W (a + 1) k := by
  have h := cnt_add W a 1 k
  rw [Nat.add_comm 1 k] at h
  rw [h]
  show 0 + (if W (a + (0 : Nat)) = true then 1 else 0) + cnt W (a + (1 : Nat)) k = _
  simp
theorem cnt_mono (W : Int → Bool) (a : Int) {j k : Nat} (h : j ≤ k) : cnt W a j ≤ cnt W a k := by
  obtain ⟨i, rfl⟩ : ∃ i, k = j + i := ⟨k - j, by omega⟩
  rw [cnt_add]; omega
theorem cnt_le (W : Int → Bool) (a : Int) (k : Nat) : cnt W a k ≤ k := by
  induction k with
  | zero => exact Nat.le_refl _
  | succ k ih =>
    show cnt W a k + (if W (a + k) = true then 1 else 0) ≤ k + 1
    split <;> omega
theorem cnt_congr {W V : Int → Bool} {a : Int} {k : Nat} (h : ∀ d, a ≤ d → d < a + k → W d = V d) : cnt W a k = cnt V a k := by
  induction k with
  | zero => rfl
  | succ k ih =>
    show cnt W a k + (if W (a + k) = true then 1 else 0) = cnt V a k + (if V (a + k) = true then 1 else 0)
    rw [ih (fun d h1 h2 => h d h1 (by omega)), h (a + k) (by omega) (by omega)]

/-- x is the n-th working day of the days from a on, below a + k -/
def isUp (W : Int → Bool) (a : Int) (k n : Nat) (x : Int) : Prop := a ≤ x ∧ x < a + k ∧ W x = true ∧ cnt W a (x - a + 1).toNat = n
theorem isUp_unique {W : Int → Bool} {a : Int} {k k' n : Nat} {x y : Int} (h : isUp W a k n x) (h' : isUp W a k' n y) : x = y := by
  obtain ⟨h1, h2, h3, h4⟩ := h
  obtain ⟨g1, g2, g3, g4⟩ := h'
  have key : ∀ x y : Int, a ≤ x → x < y → W y = true → cnt W a (x - a + 1).toNat < cnt W a (y - a + 1).toNat := by
    intro x y hx hxy hy
    have e : (y - a + 1).toNat = (y - a).toNat + 1 := by omega
    have c : cnt W a ((y - a).toNat + 1) = cnt W a (y - a).toNat + 1 := by
      show cnt W a (y - a).toNat + (if W (a + ((y - a).toNat : Nat)) = true then 1 else 0) = _
      rw [show a + (((y - a).toNat : Nat) : Int) = y by omega, if_pos hy]
    have m := cnt_mono W a (show (x - a + 1).toNat ≤ (y - a).toNat by omega)
    rw [e, c]; omega
  rcases Int.lt_trichotomy x y with h | h | h
  · have := key x y h1 h g3; omega
  · exact h
  · have := key y x g1 h h3; omega
theorem isUp_here {W : Int → Bool} {a : Int} {k : Nat} (hk : 0 < k) (h : W a = true) : isUp W a k 1 a := by
  refine ⟨by omega, by omega, h, ?_⟩
  rw [show (a - a + 1).toNat = 0 + 1 by omega]
  show 0 + (if W (a + (0 : Nat)) = true then 1 else 0) = 1
  simp [h]
theorem isUp_step {W : Int → Bool} {a : Int} {k n : Nat} {x : Int} (h : isUp W (a + 1) k n x) : isUp W a (k + 1) (n + (if W a = true then 1 else 0)) x := by
  obtain ⟨h1, h2, h3, h4⟩ := h
  refine ⟨by omega, by omega, h3, ?_⟩
  rw [show (x - a + 1).toNat = (x - (a + 1) + 1).toNat + 1 by omega, cnt_front, h4]; omega
/-- the search upward -/
def up (W : Int → Bool) : Nat → Int → Nat → Option Int
  | 0, _, _ => none
  | k + 1, d, n => if W d = true then (if n = 1 then some d else up W k (d + 1) (n - 1)) else up W k (d + 1) n
theorem up_some {W : Int → Bool} {k : Nat} : ∀ {d : Int} {n : Nat} {x : Int}, 1 ≤ n → up W k d n = some x → isUp W d k n x := by
  induction k with
  | zero => intro d n x _ h; cases h
  | succ k ih =>
    intro d n x hn h
    unfold up at h
    by_cases hw : W d = true
    · rw [if_pos hw] at h
      by_cases h1 : n = 1
      · rw [if_pos h1] at h
        injection h with h
        subst h h1
        exact isUp_here (by omega) hw
      · rw [if_neg h1] at h
        have := isUp_step (ih (by omega) h)
        rw [if_pos hw, show n - 1 + 1 = n by omega] at this
        exact this
    · rw [if_neg hw] at h
      have := isUp_step (ih hn h)
      rw [if_neg hw] at this
      exact this
theorem up_none {W : Int → Bool} {k : Nat} : ∀ {d : Int} {n : Nat}, 1 ≤ n → up W k d n = none → cnt W d k < n := by
  induction k with
  | zero => intro d n hn _; exact hn
  | succ k ih =>
    intro d n hn h
    unfold up at h
    rw [cnt_front]
    by_cases hw : W d = true
    · rw [if_pos hw] at h ⊢
      by_cases h1 : n = 1
      · rw [if_pos h1] at h; cases h
      · rw [if_neg h1] at h
        have := ih (by omega) h
        omega
    · rw [if_neg hw] at h ⊢
      have := ih hn h
      omega
theorem up_of {W : Int → Bool} {k : Nat} {d : Int} {n : Nat} {x : Int} (hn : 1 ≤ n) (h : isUp W d k n x) : up W k d n = some x := by
  cases e : up W k d n with
  | some y => rw [isUp_unique (up_some hn e) h]
  | none =>
    have h1 := up_none hn e
    obtain ⟨a1, a2, a3, a4⟩ := h
    have := cnt_mono W d (show (x - d + 1).toNat ≤ k by omega)
    omega
theorem up_no {W : Int → Bool} {k : Nat} {d : Int} {n : Nat} (hn : 1 ≤ n) (h : cnt W d k < n) : up W k d n = none := by
  cases e : up W k d n with
  | none => rfl
  | some y =>
    obtain ⟨a1, a2, a3, a4⟩ := up_some hn e
    have := cnt_mono W d (show (y - d + 1).toNat ≤ k by omega)
    omega

/-- x is the n-th working day of the days from d down, above d - k -/
def isDown (W : Int → Bool) (d : Int) (k n : Nat) (x : Int) : Prop := x ≤ d ∧ d - k < x ∧ W x = true ∧ cnt W x (d - x + 1).toNat = n
/-- the search downward -/
def down (W : Int → Bool) : Nat → Int → Nat → Option Int
  | 0, _, _ => none
  | k + 1, d, n => if W d = true then (if n = 1 then some d else down W k (d - 1) (n - 1)) else down W k (d - 1) n
theorem isDown_unique {W : Int → Bool} {d : Int} {k k' n : Nat} {x y : Int} (h : isDown W d k n x) (h' : isDown W d k' n y) : x = y := by
  obtain ⟨h1, h2, h3, h4⟩ := h
  obtain ⟨g1, g2, g3, g4⟩ := h'
  have key : ∀ x y : Int, x < y → y ≤ d → W x = true → cnt W y (d - y + 1).toNat < cnt W x (d - x + 1).toNat := by
    intro x y hxy hy hx
    have c := cnt_add W x (y - x).toNat (d - y + 1).toNat
    rw [show (y - x).toNat + (d - y + 1).toNat = (d - x + 1).toNat by omega, show x + (((y - x).toNat : Nat) : Int) = y by omega] at c
    have c1 := cnt_front W x ((y - x).toNat - 1)
    rw [show (y - x).toNat - 1 + 1 = (y - x).toNat by omega, if_pos hx] at c1
    omega
  rcases Int.lt_trichotomy x y with h | h | h
  · have := key x y h g1 h3; omega
  · exact h
  · have := key y x h h1 g3; omega
theorem isDown_here {W : Int → Bool} {d : Int} {k : Nat} (hk : 0 < k) (h : W d = true) : isDown W d k 1 d := by
  refine ⟨by omega, by omega, h, ?_⟩
  rw [show (d - d + 1).toNat = 0 + 1 by omega]
  show 0 + (if W (d + (0 : Nat)) = true then 1 else 0) = 1
  simp [h]
theorem isDown_step {W : Int → Bool} {d : Int} {k n : Nat} {x : Int} (h : isDown W (d - 1) k n x) : isDown W d (k + 1) (n + (if W d = true then 1 else 0)) x := by
  obtain ⟨h1, h2, h3, h4⟩ := h
  refine ⟨by omega, by omega, h3, ?_⟩
  rw [show (d - x + 1).toNat = (d - 1 - x + 1).toNat + 1 by omega]
  show cnt W x (d - 1 - x + 1).toNat + (if W (x + ((d - 1 - x + 1).toNat : Nat)) = true then 1 else 0) = _
  rw [h4, show x + (((d - 1 - x + 1).toNat : Nat) : Int) = d by omega]
theorem down_some {W : Int → Bool} {k : Nat} : ∀ {d : Int} {n : Nat} {x : Int}, 1 ≤ n → down W k d n = some x → isDown W d k n x := by
  induction k with
  | zero => intro d n x _ h; cases h
  | succ k ih =>
    intro d n x hn h
    unfold down at h
    by_cases hw : W d = true
    · rw [if_pos hw] at h
      by_cases h1 : n = 1
      · rw [if_pos h1] at h
        injection h with h
        subst h h1
        exact isDown_here (by omega) hw
      · rw [if_neg h1] at h
        have := isDown_step (ih (by omega) h)
        rw [if_pos hw, show n - 1 + 1 = n by omega] at this
        exact this
    · rw [if_neg hw] at h
      have := isDown_step (ih hn h)
      rw [if_neg hw] at this
      exact this
theorem down_none {W : Int → Bool} {k : Nat} : ∀ {d : Int} {n : Nat}, 1 ≤ n → down W k d n = none → cnt W (d - k + 1) k < n := by
  induction k with
  | zero => intro d n hn _; exact hn
  | succ k ih =>
    intro d n hn h
    unfold down at h
    have e : cnt W (d - (k + 1 : Nat) + 1) (k + 1) = cnt W (d - 1 - k + 1) k + (if W d = true then 1 else 0) := by
      show cnt W (d - (k + 1 : Nat) + 1) k + (if W (d - (k + 1 : Nat) + 1 + k) = true then 1 else 0) = _
      rw [show d - ((k + 1 : Nat) : Int) + 1 = d - 1 - k + 1 by omega, show d - 1 - (k : Int) + 1 + k = d by omega]
    rw [e]
    by_cases hw : W d = true
    · rw [if_pos hw] at h ⊢
      by_cases h1 : n = 1
      · rw [if_pos h1] at h; cases h
      · rw [if_neg h1] at h
        have := ih (by omega) h
        omega
    · rw [if_neg hw] at h ⊢
      have := ih hn h
      omega
theorem down_of {W : Int → Bool} {k : Nat} {d : Int} {n : Nat} {x : Int} (hn : 1 ≤ n) (h : isDown W d k n x) : down W k d n = some x := by
  cases e : down W k d n with
  | some y => rw [isDown_unique (down_some hn e) h]
  | none =>
    have h1 := down_none hn e
    obtain ⟨a1, a2, a3, a4⟩ := h
    have c := cnt_add W (d - k + 1) (x - (d - k + 1)).toNat (d - x + 1).toNat
    rw [show (x - (d - k + 1)).toNat + (d - x + 1).toNat = k by omega, show d - (k : Int) + 1 + (((x - (d - k + 1)).toNat : Nat) : Int) = x by omega] at c
    omega
theorem down_no {W : Int → Bool} {k : Nat} {d : Int} {n : Nat} (hn : 1 ≤ n) (h : cnt W (d - k + 1) k < n) : down W k d n = none := by
  cases e : down W k d n with
  | none => rfl
  | some y =>
    obtain ⟨a1, a2, a3, a4⟩ := down_some hn e
    have c := cnt_add W (d - k + 1) (y - (d - k + 1)).toNat (d - y + 1).toNat
    rw [show (y - (d - k + 1)).toNat + (d - y + 1).toNat = k by omega, show d - (k : Int) + 1 + (((y - (d - k + 1)).toNat : Nat) : Int) = y by omega] at c
    omega
/-- so many on and so many back -/
theorem back {W : Int → Bool} {d c : Int} {k n : Nat} (hw : W d = true) (hn : 1 ≤ n) (h : isUp W (d + 1) k n c) (j : Nat) (hj : c - 1 - j < d) : isDown W (c - 1) j n d := by
  obtain ⟨h1, h2, h3, h4⟩ := h
  refine ⟨by omega, by omega, hw, ?_⟩
  rw [show (c - 1 - d + 1).toNat = (c - (d + 1)).toNat + 1 by omega, cnt_front, if_pos hw]
  rw [show (c - (d + 1) + 1).toNat = (c - (d + 1)).toNat + 1 by omega] at h4
  have e : cnt W (d + 1) ((c - (d + 1)).toNat + 1) = cnt W (d + 1) (c - (d + 1)).toNat + 1 := by
    show cnt W (d + 1) (c - (d + 1)).toNat + (if W (d + 1 + ((c - (d + 1)).toNat : Nat)) = true then 1 else 0) = _
    rw [show d + 1 + (((c - (d + 1)).toNat : Nat) : Int) = c by omega, if_pos h3]
  omega
/-- how many from a to b -/
def count (W : Int → Bool) (a b : Int) : Nat := cnt W a (b - a + 1).toNat
theorem count_side (W : Int → Bool) {a b c : Int} (h1 : a ≤ b) (h2 : b < c) : count W a b + count W (b + 1) c = count W a c := by
  unfold count
  have e := cnt_add W a (b - a + 1).toNat (c - (b + 1) + 1).toNat
  rw [show (b - a + 1).toNat + (c - (b + 1) + 1).toNat = (c - a + 1).toNat by omega, show a + (((b - a + 1).toNat : Nat) : Int) = b + 1 by omega] at e
  omega
theorem count_up {W : Int → Bool} {a : Int} {k n : Nat} {x : Int} (h : isUp W a k n x) : count W a x = n := h.2.2.2

/-- a day that works: none of the list, no Saturday, no Sunday -/
def works (hol : List Int) (d : Int) : Bool := !hol.contains d && decide (1 < d.tmod 7)
/-- may holidays be these: within the days, rising -/
def okFrom : Int → List Int → Int
  | _, [] => 0
  | p, h :: t => if h < 0 ∨ 73048 < h then 15 else if h ≤ p then 2 else okFrom h t
def checkE (hol : List Int) : Int := if 1024 < hol.length then 8 else okFrom (-1) hol
theorem okFrom_ok : ∀ {p : Int} {l : List Int}, okFrom p l = 0 → ∀ h ∈ l, 0 ≤ h ∧ h ≤ 73048 ∧ p < h := by
  intro p l
  induction l generalizing p with
  | nil => intro _ h hh; cases hh
  | cons x t ih =>
    intro e h hh
    unfold okFrom at e
    by_cases c1 : x < 0 ∨ 73048 < x
    · rw [if_pos c1] at e; exact absurd e (by decide)
    · rw [if_neg c1] at e
      by_cases c2 : x ≤ p
      · rw [if_pos c2] at e; exact absurd e (by decide)
      · rw [if_neg c2] at e
        rcases List.mem_cons.1 hh with rfl | hm
        · omega
        · have := ih e h hm
          omega
end KM
