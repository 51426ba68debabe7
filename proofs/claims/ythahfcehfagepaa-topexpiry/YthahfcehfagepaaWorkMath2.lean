/- Working days counted from day 0, weeks and holidays apart; ranks. -/
import Derived.Test.YthahfcehfagepaaWorkMath
import Derived.Test.YthahfcehfagepaaDateMath5
namespace KM
set_option linter.unusedVariables false

/-- no Saturday, no Sunday -/
def wk (d : Int) : Bool := decide (1 < d % 7)
theorem wk_weekday {d : Int} (h0 : 0 ≤ d) (h1 : d ≤ 73048) : decide (DM.weekday d ≤ 5) = wk d := by
  rw [DM.weekday_in h0 h1]
  unfold wk
  rw [decide_eq_decide]; omega
theorem works_wk (hol : List Int) {d : Int} (h0 : 0 ≤ d) : works hol d = (!hol.contains d && wk d) := by
  unfold works wk
  rw [Int.tmod_eq_emod_of_nonneg h0]
theorem works_nil {d : Int} (h0 : 0 ≤ d) : works [] d = wk d := by rw [works_wk [] h0]; simp

theorem cnt_week (k : Nat) : cnt wk 0 (7 * k) = 5 * k := by
  induction k with
  | zero => rfl
  | succ k ih =>
    rw [show 7 * (k + 1) = 7 * k + 7 by omega, cnt_add, ih]
    have : cnt wk (0 + ((7 * k : Nat) : Int)) 7 = 5 := by
      have f : ∀ j : Nat, j < 7 → wk (0 + ((7 * k : Nat) : Int) + j) = wk (j : Int) := by
        intro j hj
        unfold wk
        rw [decide_eq_decide]; omega
      show 0 + _ + _ + _ + _ + _ + _ + _ = 5
      rw [f 0 (by omega), f 1 (by omega), f 2 (by omega), f 3 (by omega), f 4 (by omega), f 5 (by omega), f 6 (by omega)]
      decide
    omega
/-- the holidays that take a working day away, up to day d -/
def hc (d : Int) : List Int → Nat
  | [] => 0
  | h :: t => (if h ≤ d ∧ wk h = true then 1 else 0) + hc d t
theorem hc_snoc (d : Int) (l : List Int) (h : Int) : hc d (l ++ [h]) = hc d l + (if h ≤ d ∧ wk h = true then 1 else 0) := by
  induction l with
  | nil => simp [hc]
  | cons a t ih => show _ + hc d (t ++ [h]) = _ + hc d t + _; rw [ih]; omega
theorem hc_le (d : Int) (l : List Int) : hc d l ≤ l.length := by
  induction l with
  | nil => exact Nat.le_refl _
  | cons a t ih => show (if a ≤ d ∧ wk a = true then 1 else 0) + hc d t ≤ t.length + 1; split <;> omega
/-- one day taken away -/
theorem cnt_less {W V : Int → Bool} {h : Int} (hW : ∀ d, d ≠ h → V d = W d) (hV : V h = false) (k : Nat) :
    cnt V 0 k + (if 0 ≤ h ∧ h < k ∧ W h = true then 1 else 0) = cnt W 0 k := by
  induction k with
  | zero => rw [if_neg (by omega)]; rfl
  | succ k ih =>
    show cnt V 0 k + (if V (0 + (k : Int)) = true then 1 else 0) + _ = cnt W 0 k + (if W (0 + (k : Int)) = true then 1 else 0)
    rw [Int.zero_add]
    by_cases e : h = k
    · subst e
      rw [hV, if_neg (by simp)]
      rw [if_neg (by omega)] at ih
      by_cases hw : W (k : Int) = true
      · rw [if_pos ⟨by omega, by omega, hw⟩, if_pos hw]; omega
      · rw [if_neg (fun g => hw g.2.2), if_neg hw]; omega
    · rw [hW k (fun g => e g.symm), ← ih]
      have : (0 ≤ h ∧ h < ((k + 1 : Nat) : Int) ∧ W h = true) ↔ (0 ≤ h ∧ h < (k : Int) ∧ W h = true) := by
        constructor
        · rintro ⟨a, b, c⟩; exact ⟨a, by omega, c⟩
        · rintro ⟨a, b, c⟩; exact ⟨a, by omega, c⟩
      simp only [this]; omega
/-- weeks less holidays -/
theorem cnt_hol : ∀ {p : Int} {hol : List Int}, okFrom p hol = 0 → ∀ k : Nat, cnt (works hol) 0 k + hc ((k : Int) - 1) hol = cnt wk 0 k := by
  intro p hol
  induction hol generalizing p with
  | nil =>
    intro _ k
    show cnt (works []) 0 k + 0 = _
    rw [Nat.add_zero]
    exact cnt_congr fun d h0 _ => works_nil h0
  | cons x t ih =>
    intro e k
    have hx := okFrom_ok e x (by simp)
    unfold okFrom at e
    rw [if_neg (by omega), if_neg (by omega)] at e
    have iht := ih e k
    have hnot : t.contains x = false := by
      cases hc : t.contains x with
      | false => rfl
      | true =>
        have hm : x ∈ t := by simpa using hc
        have := okFrom_ok e x hm
        omega
    have hl := cnt_less (W := works t) (V := works (x :: t)) (h := x) (fun d hd => by
      unfold works
      have : (x :: t).contains d = t.contains d := by
        rw [List.contains_cons]
        have : (d == x) = false := by simpa using hd
        rw [this]; rfl
      rw [this]) (by unfold works; simp) k
    have hw : works t x = wk x := by rw [works_wk t hx.1, hnot]; rfl
    show _ + ((if x ≤ (k : Int) - 1 ∧ wk x = true then 1 else 0) + hc ((k : Int) - 1) t) = _
    rw [← iht, ← hl, hw]
    have : (0 ≤ x ∧ x < (k : Int) ∧ wk x = true) ↔ (x ≤ (k : Int) - 1 ∧ wk x = true) := by
      constructor
      · rintro ⟨a, b, c⟩; exact ⟨by omega, c⟩
      · rintro ⟨b, c⟩; exact ⟨hx.1, by omega, c⟩
    simp only [this]; omega
/-- working days from day 0 to day d -/
def unt (W : Int → Bool) (d : Int) : Nat := cnt W 0 (d + 1).toNat
theorem unt_mono (W : Int → Bool) {a b : Int} (h : a ≤ b) : unt W a ≤ unt W b := cnt_mono W 0 (by omega)
theorem unt_le (W : Int → Bool) {d : Int} (h : -1 ≤ d) : (unt W d : Int) ≤ d + 1 := by
  have := cnt_le W 0 (d + 1).toNat
  unfold unt; omega
theorem unt_neg (W : Int → Bool) : unt W (-1) = 0 := rfl

/-! ranks -/
def rkO (W : Int → Bool) (r : Int) : Option Int := if r < 1 then none else up W 73049 0 r.toNat
/-- the least day with so many working days up to it -/
theorem rk_found {W : Int → Bool} {r : Int} {x : Nat} (hr : 1 ≤ r) (hx : x < 73049) (h1 : ∀ t : Nat, t < x → (unt W t : Int) < r) (h2 : r ≤ (unt W x : Int)) : rkO W r = some (x : Int) := by
  unfold rkO
  rw [if_neg (by omega)]
  apply up_of (by omega)
  have e : cnt W 0 (x + 1) = cnt W 0 x + (if W (0 + (x : Int)) = true then 1 else 0) := rfl
  have hu : unt W x = cnt W 0 (x + 1) := rfl
  rw [Int.zero_add] at e
  have h3 : (cnt W 0 x : Int) < r := by
    cases x with
    | zero => show ((0 : Nat) : Int) < r; omega
    | succ y =>
      have := h1 y (by omega)
      exact this
  have hW : W (x : Int) = true := by
    cases hw : W (x : Int) with
    | true => rfl
    | false => rw [hw] at e; simp at e; rw [hu, e] at h2; omega
  rw [if_pos hW] at e
  refine ⟨by omega, by omega, hW, ?_⟩
  rw [show ((x : Int) - 0 + 1).toNat = x + 1 by omega, e]
  rw [hu, e] at h2
  omega
theorem rk_none {W : Int → Bool} {r : Int} (hr : 1 ≤ r) (h : ∀ t : Nat, t < 73049 → (unt W t : Int) < r) : rkO W r = none := by
  unfold rkO
  rw [if_neg (by omega)]
  apply up_no (by omega)
  have := h 73048 (by omega)
  have e : unt W ((73048 : Nat) : Int) = cnt W 0 73049 := rfl
  rw [e] at this; omega
theorem rk_low {W : Int → Bool} {r : Int} (hr : r < 1) : rkO W r = none := by unfold rkO; rw [if_pos hr]
theorem rk_is {W : Int → Bool} {r x : Int} (h : rkO W r = some x) : 1 ≤ r ∧ isUp W 0 73049 r.toNat x := by
  unfold rkO at h
  by_cases hr : r < 1
  · rw [if_pos hr] at h; cases h
  · rw [if_neg hr] at h
    exact ⟨by omega, up_some (by omega) h⟩
theorem rk_of {W : Int → Bool} {r x : Int} (hr : 1 ≤ r) (h : isUp W 0 73049 r.toNat x) : rkO W r = some x := by
  unfold rkO
  rw [if_neg (by omega)]
  exact up_of (by omega) h
theorem rk_no {W : Int → Bool} {r : Int} (h : (unt W 73048 : Int) < r) : rkO W r = none := by
  have e : unt W 73048 = cnt W 0 73049 := rfl
  unfold rkO
  split
  · rfl
  · apply up_no (by omega)
    rw [e] at h; omega
theorem unt_add (W : Int → Bool) {a b : Int} (h0 : -1 ≤ a) (h : a ≤ b) : unt W b = unt W a + cnt W (a + 1) (b - a).toNat := by
  unfold unt
  have e := cnt_add W 0 (a + 1).toNat (b - a).toNat
  rw [show (a + 1).toNat + (b - a).toNat = (b + 1).toNat by omega, show (0 : Int) + (((a + 1).toNat : Nat) : Int) = a + 1 by omega] at e
  exact e
/-- the n-th one behind a day, by rank -/
theorem rk_up {W : Int → Bool} {day : Int} {n : Nat} (h0 : -1 ≤ day) (h1 : day ≤ 73048) (hn : 1 ≤ n) : rkO W ((unt W day : Int) + n) = up W (73048 - day).toNat (day + 1) n := by
  cases e : up W (73048 - day).toNat (day + 1) n with
  | some x =>
    obtain ⟨a1, a2, a3, a4⟩ := up_some hn e
    apply rk_of (by omega)
    refine ⟨by omega, by omega, a3, ?_⟩
    have := unt_add W (a := day) (b := x) h0 (by omega)
    rw [show (x - 0 + 1).toNat = (x + 1).toNat by omega]
    show unt W x = _
    rw [this, show (x - day).toNat = (x - (day + 1) + 1).toNat by omega, a4]; omega
  | none =>
    have h := up_none hn e
    apply rk_no
    have := unt_add W (a := day) (b := 73048) h0 h1
    rw [this]; omega
/-- the k-th one ahead of a day, by rank -/
theorem rk_down {W : Int → Bool} {day : Int} {k : Nat} (h0 : 0 ≤ day) (h1 : day ≤ 73049) (hk : 1 ≤ k) : rkO W ((unt W (day - 1) : Int) + 1 - k) = down W day.toNat (day - 1) k := by
  have hu : unt W (day - 1) = cnt W 0 day.toNat := by unfold unt; rw [show (day - 1 + 1).toNat = day.toNat by omega]
  cases e : down W day.toNat (day - 1) k with
  | none =>
    have h := down_none hk e
    rw [show day - 1 - ((day.toNat : Nat) : Int) + 1 = 0 by omega] at h
    apply rk_low
    rw [hu]; omega
  | some x =>
    obtain ⟨a1, a2, a3, a4⟩ := down_some hk e
    have hs := unt_add W (a := x - 1) (b := day - 1) (by omega) (by omega)
    rw [show x - 1 + 1 = x by omega, show (day - 1 - (x - 1)).toNat = (day - 1 - x + 1).toNat by omega, a4] at hs
    have hx := unt_add W (a := x - 1) (b := x) (by omega) (by omega)
    rw [show x - 1 + 1 = x by omega, show (x - (x - 1)).toNat = 0 + 1 by omega, cnt_front, if_pos a3] at hx
    have hx : unt W x = unt W (x - 1) + 1 := hx
    apply rk_of (by omega)
    refine ⟨by omega, by omega, a3, ?_⟩
    rw [show (x - 0 + 1).toNat = (x + 1).toNat by omega]
    show unt W x = _
    omega
/-- the day itself or the next one -/
theorem rk_on {W : Int → Bool} {day : Int} (h0 : 0 ≤ day) (h1 : day ≤ 73048) : rkO W ((unt W (day - 1) : Int) + 1) = if W day = true then some day else up W (73048 - day).toNat (day + 1) 1 := by
  have h := rk_up (W := W) (day := day - 1) (n := 1) (by omega) (by omega) (by omega)
  rw [show ((unt W (day - 1) : Int) + ((1 : Nat) : Int)) = (unt W (day - 1) : Int) + 1 by omega] at h
  rw [h, show (73048 - (day - 1)).toNat = (73048 - day).toNat + 1 by omega, show day - 1 + 1 = day by omega]
  show (if W day = true then (if 1 = 1 then some day else _) else _) = _
  simp
/-- the day itself or the one ahead -/
theorem rk_back {W : Int → Bool} {day : Int} (h0 : 0 ≤ day) (h1 : day ≤ 73048) : rkO W (unt W day : Int) = if W day = true then some day else down W day.toNat (day - 1) 1 := by
  have hs := unt_add W (a := day - 1) (b := day) (by omega) (by omega)
  rw [show day - 1 + 1 = day by omega, show (day - (day - 1)).toNat = 0 + 1 by omega, cnt_front] at hs
  by_cases hw : W day = true
  · rw [if_pos hw] at hs ⊢
    have hs : unt W day = unt W (day - 1) + 1 := hs
    apply rk_of (by omega)
    refine ⟨by omega, by omega, hw, ?_⟩
    rw [show (day - 0 + 1).toNat = (day + 1).toNat by omega]
    show unt W day = _
    omega
  · rw [if_neg hw] at hs ⊢
    have hs : unt W day = unt W (day - 1) := by rw [hs]; rfl
    rw [hs, ← rk_down h0 (by omega) (Nat.le_refl 1)]
    congr 1; omega
end KM
