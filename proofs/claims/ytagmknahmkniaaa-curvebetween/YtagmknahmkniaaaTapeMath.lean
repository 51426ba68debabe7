/- Layer 17's mathematics: tapes. -/
import Derived.Test.YtagmknahmkniaaaProductMath
namespace TP
set_option linter.unusedVariables false
structure Tick where
  time : Int
  qty : Int
  price : Int
def zero : Tick := ⟨0, 0, 0⟩
def tAt (l : List Tick) (k : Nat) : Tick := l.getD k zero
theorem tAt_get {l : List Tick} {k : Nat} (h : k < l.length) : tAt l k = l[k] := by simp [tAt, List.getD, h]
def prev (l : List Tick) (k : Nat) : Int := if k = 0 then 0 else (tAt l (k - 1)).time
theorem prev_zero (l : List Tick) : prev l 0 = 0 := rfl
theorem prev_succ (l : List Tick) (k : Nat) : prev l (k + 1) = (tAt l k).time := by unfold prev; simp
def oneT (a : Int) (t : Tick) : Int :=
  if QM.within t.time a 86399 = false then 2 else if QM.within t.qty 1 1048576 = false then 18 else if QM.within t.price (-16777216) 16777216 = false then 17 else 0
def oneE (l : List Tick) (k : Nat) : Int := oneT (prev l k) (tAt l k)
def uptoE (l : List Tick) : Nat → Int
  | 0 => 0
  | k + 1 => if uptoE l k = 0 then oneE l k else uptoE l k
def allE (l : List Tick) : Int := if 1024 < l.length then 8 else uptoE l l.length
theorem upto_stay {l : List Tick} {k : Nat} (h : uptoE l k ≠ 0) : ∀ m, uptoE l (k + m) = uptoE l k := by
  intro m
  induction m with
  | zero => rfl
  | succ m ih => rw [← Nat.add_assoc, uptoE, ih, if_neg h]
theorem all_stop {l : List Tick} {k : Nat} (hl : ¬ 1024 < l.length) (hk : k < l.length) (h : uptoE l k = 0) (h2 : oneE l k ≠ 0) : allE l = oneE l k := by
  have e : uptoE l (k + 1) = oneE l k := by rw [uptoE, if_pos h]
  unfold allE
  rw [if_neg hl]
  have := @upto_stay l (k + 1) (by rw [e]; exact h2) (l.length - (k + 1))
  rw [show k + 1 + (l.length - (k + 1)) = l.length by omega] at this
  rw [this, e]
theorem upto_step {l : List Tick} {k : Nat} (h : uptoE l k = 0) (h2 : oneE l k = 0) : uptoE l (k + 1) = 0 := by rw [uptoE, if_pos h]; exact h2
theorem upto_back {l : List Tick} {n : Nat} (h : uptoE l n = 0) : ∀ k, k < n → oneE l k = 0 := by
  induction n with
  | zero => intro k hk; omega
  | succ n ih =>
    intro k hk
    rw [uptoE] at h
    by_cases hn : uptoE l n = 0
    · rw [if_pos hn] at h
      rcases Nat.lt_or_ge k n with g | g
      · exact ih hn k g
      · obtain rfl : k = n := by omega
        exact h
    · rw [if_neg hn] at h; exact absurd h hn
theorem oneT_zero {a : Int} {t : Tick} : oneT a t = 0 ↔ (a ≤ t.time ∧ t.time ≤ 86399) ∧ (1 ≤ t.qty ∧ t.qty ≤ 1048576) ∧ (-16777216 ≤ t.price ∧ t.price ≤ 16777216) := by
  rw [← QM.within_true, ← QM.within_true, ← QM.within_true]
  unfold oneT
  cases QM.within t.time a 86399 <;> cases QM.within t.qty 1 1048576 <;> cases QM.within t.price (-16777216) 16777216 <;> simp
theorem one_time {a : Int} {t : Tick} (h : ¬ (a ≤ t.time ∧ t.time ≤ 86399)) : oneT a t = 2 := by
  unfold oneT; rw [if_pos (by rw [QM.within_false]; omega)]
theorem one_qty {a : Int} {t : Tick} (h : a ≤ t.time ∧ t.time ≤ 86399) (h2 : ¬ (1 ≤ t.qty ∧ t.qty ≤ 1048576)) : oneT a t = 18 := by
  unfold oneT; rw [QM.within_true.2 h, if_neg (by simp), if_pos (by rw [QM.within_false]; omega)]
theorem one_price {a : Int} {t : Tick} (h : a ≤ t.time ∧ t.time ≤ 86399) (h2 : 1 ≤ t.qty ∧ t.qty ≤ 1048576) (h3 : ¬ (-16777216 ≤ t.price ∧ t.price ≤ 16777216)) : oneT a t = 17 := by
  unfold oneT; rw [QM.within_true.2 h, if_neg (by simp), QM.within_true.2 h2, if_neg (by simp), if_pos (by rw [QM.within_false]; omega)]
/-- what ticks that were checked are -/
structure Good (l : List Tick) : Prop where
  len : l.length ≤ 1024
  each : ∀ k, k < l.length → (0 ≤ (tAt l k).time ∧ (tAt l k).time ≤ 86399) ∧ (1 ≤ (tAt l k).qty ∧ (tAt l k).qty ≤ 1048576) ∧ (-16777216 ≤ (tAt l k).price ∧ (tAt l k).price ≤ 16777216)
  rise : ∀ k, k + 1 < l.length → (tAt l k).time ≤ (tAt l (k + 1)).time
theorem good {l : List Tick} (h : allE l = 0) : Good l := by
  unfold allE at h
  split at h
  · cases h
  · rename_i hl
    have hb := fun k hk => oneT_zero.1 (upto_back h k hk)
    have h0 : ∀ k, k < l.length → 0 ≤ (tAt l k).time := by
      intro k
      induction k with
      | zero => intro hk; have := (hb 0 hk).1.1; rw [prev_zero] at this; exact this
      | succ k ih => intro hk; have := (hb (k + 1) hk).1.1; rw [prev_succ] at this; have := ih (by omega); omega
    refine ⟨by omega, fun k hk => ⟨⟨h0 k hk, (hb k hk).1.2⟩, (hb k hk).2⟩, fun k hk => ?_⟩
    have := (hb (k + 1) hk).1.1
    rw [prev_succ] at this
    exact this
theorem upto_of {l : List Tick} (hg : Good l) : ∀ k, k ≤ l.length → uptoE l k = 0 := by
  intro k
  induction k with
  | zero => intro _; rfl
  | succ k ih =>
    intro hk
    refine upto_step (ih (by omega)) (oneT_zero.2 ?_)
    obtain ⟨a, b, c⟩ := hg.each k (by omega)
    refine ⟨⟨?_, a.2⟩, b, c⟩
    cases k with
    | zero => exact a.1
    | succ k => rw [prev_succ]; exact hg.rise k (by omega)
theorem of_good {l : List Tick} (hg : Good l) : allE l = 0 := by
  unfold allE; rw [if_neg (by have := hg.len; omega)]; exact upto_of hg _ (Nat.le_refl _)
theorem prev_ge {l : List Tick} {k : Nat} (hk : k ≤ l.length) (h : uptoE l k = 0) : 0 ≤ prev l k := by
  induction k with
  | zero => exact Int.le_refl _
  | succ k ih =>
    have h1 := upto_back h k (by omega)
    have h2 : uptoE l k = 0 := by
      rw [uptoE] at h
      by_cases hn : uptoE l k = 0
      · exact hn
      · rw [if_neg hn] at h; exact absurd h hn
    have := (oneT_zero.1 h1).1.1
    have := ih (by omega) h2
    rw [prev_succ]; omega

/-- sums -/
def vol : List Tick → Int
  | [] => 0
  | t :: l => t.qty + vol l
def val : List Tick → Int
  | [] => 0
  | t :: l => t.price * t.qty + val l
theorem vol_append (a b : List Tick) : vol (a ++ b) = vol a + vol b := by
  induction a with
  | nil => simp [vol]
  | cons t a ih => rw [List.cons_append, vol, ih, vol]; omega
theorem val_append (a b : List Tick) : val (a ++ b) = val a + val b := by
  induction a with
  | nil => simp [val]
  | cons t a ih => rw [List.cons_append, val, ih, val]; omega
theorem take_succ {l : List Tick} {k : Nat} (h : k < l.length) : l.take (k + 1) = l.take k ++ [tAt l k] := by
  rw [tAt_get h, List.take_add_one, List.getElem?_eq_getElem h]; rfl
def volU (l : List Tick) (k : Nat) : Int := vol (l.take k)
def valU (l : List Tick) (k : Nat) : Int := val (l.take k)
theorem volU_zero (l : List Tick) : volU l 0 = 0 := rfl
theorem valU_zero (l : List Tick) : valU l 0 = 0 := rfl
theorem volU_all (l : List Tick) : volU l l.length = vol l := by unfold volU; rw [List.take_length]
theorem valU_all (l : List Tick) : valU l l.length = val l := by unfold valU; rw [List.take_length]
theorem volU_succ {l : List Tick} {k : Nat} (h : k < l.length) : volU l (k + 1) = volU l k + (tAt l k).qty := by
  unfold volU; rw [take_succ h, vol_append]; simp [vol]
theorem valU_succ {l : List Tick} {k : Nat} (h : k < l.length) : valU l (k + 1) = valU l k + (tAt l k).price * (tAt l k).qty := by
  unfold valU; rw [take_succ h, val_append]; simp [val]
theorem mul_bound {p q : Int} (hp : -16777216 ≤ p ∧ p ≤ 16777216) (hq : 1 ≤ q ∧ q ≤ 1048576) : -17592186044416 ≤ p * q ∧ p * q ≤ 17592186044416 := by
  have h1 : p * q ≤ 16777216 * q := Int.mul_le_mul_of_nonneg_right hp.2 (by omega)
  have h2 : (-16777216) * q ≤ p * q := Int.mul_le_mul_of_nonneg_right hp.1 (by omega)
  omega
theorem vol_bounds {l : List Tick} (hg : Good l) : ∀ k, k ≤ l.length → (k : Int) ≤ volU l k ∧ volU l k ≤ 1048576 * (k : Int) := by
  intro k
  induction k with
  | zero => intro _; rw [volU_zero]; omega
  | succ k ih =>
    intro hk
    have := ih (by omega)
    have := (hg.each k (by omega)).2.1
    rw [volU_succ (by omega)]; omega
theorem val_bounds {l : List Tick} (hg : Good l) : ∀ k, k ≤ l.length → -(17592186044416 * (k : Int)) ≤ valU l k ∧ valU l k ≤ 17592186044416 * (k : Int) := by
  intro k
  induction k with
  | zero => intro _; rw [valU_zero]; omega
  | succ k ih =>
    intro hk
    have := ih (by omega)
    have h1 := hg.each k (by omega)
    have := mul_bound h1.2.2 h1.2.1
    rw [valU_succ (by omega)]; omega
/-- the value lies between the lots at the least and at the greatest price -/
theorem val_between {l : List Tick} (hg : Good l) {x y : Int} (h : ∀ k, k < l.length → x ≤ (tAt l k).price ∧ (tAt l k).price ≤ y) : ∀ k, k ≤ l.length → x * volU l k ≤ valU l k ∧ valU l k ≤ y * volU l k := by
  intro k
  induction k with
  | zero => intro _; rw [valU_zero, volU_zero]; omega
  | succ k ih =>
    intro hk
    obtain ⟨i1, i2⟩ := ih (by omega)
    have h1 := (hg.each k (by omega)).2.1
    obtain ⟨h2, h3⟩ := h k (by omega)
    rw [valU_succ (by omega), volU_succ (by omega), Int.mul_add, Int.mul_add]
    have := Int.mul_le_mul_of_nonneg_right h2 (show 0 ≤ (tAt l k).qty by omega)
    have := Int.mul_le_mul_of_nonneg_right h3 (show 0 ≤ (tAt l k).qty by omega)
    omega

/-- the lowest and the highest price of the first k -/
def lowU (l : List Tick) : Nat → Int
  | 0 => (tAt l 0).price
  | k + 1 => if (tAt l k).price < lowU l k then (tAt l k).price else lowU l k
def highU (l : List Tick) : Nat → Int
  | 0 => (tAt l 0).price
  | k + 1 => if highU l k < (tAt l k).price then (tAt l k).price else highU l k
theorem lowU_one (l : List Tick) : lowU l 1 = (tAt l 0).price := by unfold lowU lowU; rw [if_neg (by omega)]
theorem highU_one (l : List Tick) : highU l 1 = (tAt l 0).price := by unfold highU highU; rw [if_neg (by omega)]
theorem lowU_le {l : List Tick} : ∀ k j, j < k → lowU l k ≤ (tAt l j).price := by
  intro k
  induction k with
  | zero => intro j hj; omega
  | succ k ih =>
    intro j hj
    rw [lowU]
    rcases Nat.lt_or_ge j k with g | g
    · have := ih j g; split <;> omega
    · obtain rfl : j = k := by omega
      split <;> omega
theorem le_highU {l : List Tick} : ∀ k j, j < k → (tAt l j).price ≤ highU l k := by
  intro k
  induction k with
  | zero => intro j hj; omega
  | succ k ih =>
    intro j hj
    rw [highU]
    rcases Nat.lt_or_ge j k with g | g
    · have := ih j g; split <;> omega
    · obtain rfl : j = k := by omega
      split <;> omega
theorem lowU_mem {l : List Tick} (h0 : 0 < l.length) : ∀ k, k ≤ l.length → ∃ j, j < l.length ∧ lowU l k = (tAt l j).price := by
  intro k
  induction k with
  | zero => intro _; exact ⟨0, h0, rfl⟩
  | succ k ih =>
    intro hk
    rw [lowU]
    split
    · exact ⟨k, by omega, rfl⟩
    · exact ih (by omega)
theorem highU_mem {l : List Tick} (h0 : 0 < l.length) : ∀ k, k ≤ l.length → ∃ j, j < l.length ∧ highU l k = (tAt l j).price := by
  intro k
  induction k with
  | zero => intro _; exact ⟨0, h0, rfl⟩
  | succ k ih =>
    intro hk
    rw [highU]
    split
    · exact ⟨k, by omega, rfl⟩
    · exact ih (by omega)
def lowN (l : List Tick) : Int := if l.length = 0 then 0 else lowU l l.length
def highN (l : List Tick) : Int := if l.length = 0 then 0 else highU l l.length

/-- a quotient by MulDiv lies between what its dividend lies between -/
theorem md_small {a c mode : Int} (ha : -1152921504606846975 ≤ a ∧ a ≤ 1152921504606846975) (hc : 1 ≤ c ∧ c ≤ 1152921504606846976) (h1 : 1 ≤ mode) (h5 : mode ≤ 5) : CM.mdE a 1 c mode = 0 := by
  have hA : CM.mdA a 1 c mode = true := by
    have f1 : CM.fits a = true := CM.fits_true.2 (by omega)
    have f2 : CM.fits c = true := CM.fits_true.2 (by omega)
    simp [CM.mdA, f1, f2, CM.fits_one, h1, h5]
  have hq : CM.mdQ a 1 c ≤ (CM.size a).toNat := by
    unfold CM.mdQ
    rw [show (CM.size 1).toNat = 1 from rfl, Nat.mul_one]
    exact Nat.div_le_self _ _
  have hs : CM.size a ≤ 1152921504606846975 := by unfold CM.size; split <;> omega
  have h0 := CM.size_nonneg a
  have hg : CM.mdG a 1 c mode ≤ 1152921504606846976 := by unfold CM.mdG; split <;> omega
  simp [CM.mdE, hA, show c ≠ 0 by omega, hg]
theorem md_between {a c x y mode : Int} (hc : 1 ≤ c ∧ c ≤ 1152921504606846976) (h1 : 1 ≤ mode) (h5 : mode ≤ 5) (hx : x * c ≤ a) (hy : a ≤ y * c)
    (bx : -1152921504606846975 ≤ x * c) (by_ : y * c ≤ 1152921504606846975) : CM.mdE a 1 c mode = 0 ∧ x ≤ CM.mdN a 1 c mode ∧ CM.mdN a 1 c mode ≤ y := by
  have e := md_small (a := a) (c := c) (mode := mode) (by omega) hc h1 h5
  have fc : CM.fits c = true := CM.fits_true.2 (by omega)
  have key : ∀ z : Int, -1152921504606846975 ≤ z * c → z * c ≤ 1152921504606846975 → CM.mdN (z * c) 1 c mode = z ∧ CM.mdE (z * c) 1 c mode = 0 := by
    intro z z1 z2
    have : -1152921504606846976 ≤ z ∧ z ≤ 1152921504606846976 := by
      constructor
      · apply Classical.byContradiction
        intro h
        have : z * c ≤ z * 1 := Int.mul_le_mul_of_nonpos_left (by omega) hc.1
        omega
      · apply Classical.byContradiction
        intro h
        have : z * 1 ≤ z * c := Int.mul_le_mul_of_nonneg_left hc.1 (by omega)
        omega
    exact QM.md_exact hc.1 (CM.fits_true.2 (by omega)) (CM.fits_true.2 this) fc h1 h5
  obtain ⟨k1, k2⟩ := key x bx (by omega)
  obtain ⟨k3, k4⟩ := key y (by omega) by_
  refine ⟨e, ?_, ?_⟩
  · have := CM.md_rises (b := 1) (by omega) (by omega) hx k2 e; rw [k1] at this; exact this
  · have := CM.md_rises (b := 1) (by omega) (by omega) hy e k4; rw [k3] at this; exact this
/-- the average -/
def vwE (l : List Tick) (step mode : Int) : Int :=
  if allE l ≠ 0 then allE l else if QM.within step 1 16777216 = false then 16 else if QM.within mode 1 5 = false then 2 else if l.length = 0 then 11 else 0
def vwK (l : List Tick) (step mode : Int) : Int := CM.mdN (val l) 1 (vol l * step) mode
def vwN (l : List Tick) (step mode : Int) : Int := if vwE l step mode = 0 then vwK l step mode * step else 0
theorem vw_zero {l : List Tick} {step mode : Int} (h : vwE l step mode = 0) : Good l ∧ (1 ≤ step ∧ step ≤ 16777216) ∧ (1 ≤ mode ∧ mode ≤ 5) ∧ 0 < l.length := by
  unfold vwE at h
  by_cases h1 : allE l = 0
  · rw [if_neg (by simp [h1])] at h
    cases h2 : QM.within step 1 16777216
    · rw [h2] at h; simp at h
    · cases h3 : QM.within mode 1 5
      · rw [h2, h3] at h; simp at h
      · rw [h2, h3] at h
        refine ⟨good h1, QM.within_true.1 h2, QM.within_true.1 h3, ?_⟩
        by_cases h4 : l.length = 0
        · rw [if_pos h4] at h; simp at h
        · omega
  · rw [if_pos h1] at h; exact absurd h h1
/-- what is multiplied and divided in an average, and what comes out -/
theorem vw_bounds {l : List Tick} {step mode : Int} (hg : Good l) (hs : 1 ≤ step ∧ step ≤ 16777216) (h1 : 1 ≤ mode) (h5 : mode ≤ 5) (h0 : 0 < l.length) :
    (1 ≤ vol l ∧ vol l ≤ 1073741824) ∧ (1 ≤ vol l * step ∧ vol l * step ≤ 18014398509481984) ∧ (-18014398509481984 ≤ val l ∧ val l ≤ 18014398509481984) ∧
      CM.mdE (val l) 1 (vol l * step) mode = 0 ∧ (-33554432 ≤ vwK l step mode ∧ vwK l step mode ≤ 33554432) ∧ (-33554432 ≤ vwK l step mode * step ∧ vwK l step mode * step ≤ 33554432) := by
  have hl := hg.len
  have hv := vol_bounds hg l.length (Nat.le_refl _)
  have ha := val_bounds hg l.length (Nat.le_refl _)
  have hb := val_between hg (x := -16777216) (y := 16777216) (fun k hk => (hg.each k hk).2.2) l.length (Nat.le_refl _)
  rw [volU_all] at hv hb
  rw [valU_all] at ha hb
  have hv1 : 1 ≤ vol l ∧ vol l ≤ 1073741824 := by omega
  have hm1 : vol l * 1 ≤ vol l * step := Int.mul_le_mul_of_nonneg_left hs.1 (by omega)
  have hm2 : vol l * step ≤ vol l * 16777216 := Int.mul_le_mul_of_nonneg_left hs.2 (by omega)
  have hc : 1 ≤ vol l * step ∧ vol l * step ≤ 18014398509481984 := by omega
  have d1 := Int.mul_ediv_add_emod 16777216 step
  have d2 := Int.emod_nonneg 16777216 (show step ≠ 0 by omega)
  have d3 := Int.emod_lt_of_pos 16777216 (show 0 < step by omega)
  obtain ⟨y, hy⟩ : ∃ y : Int, y = 16777216 / step + 1 := ⟨_, rfl⟩
  have ys : y * step = step * (16777216 / step) + step := by rw [hy, Int.add_mul, Int.one_mul, Int.mul_comm]
  have y1 : 16777216 ≤ y * step ∧ y * step ≤ 33554432 := by omega
  have y0 : 1 ≤ y := by have := Int.ediv_nonneg (show (0 : Int) ≤ 16777216 by omega) (show 0 ≤ step by omega); omega
  have e : y * (vol l * step) = y * step * vol l := by rw [Int.mul_assoc, Int.mul_comm step]
  have e2 : -y * (vol l * step) = -(y * step * vol l) := by rw [Int.neg_mul, e]
  have b1 : 16777216 * vol l ≤ y * step * vol l := Int.mul_le_mul_of_nonneg_right y1.1 (by omega)
  have b2 : y * step * vol l ≤ 33554432 * vol l := Int.mul_le_mul_of_nonneg_right y1.2 (by omega)
  have hK := md_between (a := val l) (c := vol l * step) (x := -y) (y := y) (mode := mode) ⟨hc.1, by omega⟩ h1 h5 (by rw [e2]; omega) (by rw [e]; omega) (by rw [e2]; omega) (by rw [e]; omega)
  have hk : -y ≤ vwK l step mode ∧ vwK l step mode ≤ y := hK.2
  have p1 : vwK l step mode * step ≤ y * step := Int.mul_le_mul_of_nonneg_right hk.2 (by omega)
  have p2 : (-y) * step ≤ vwK l step mode * step := Int.mul_le_mul_of_nonneg_right hk.1 (by omega)
  rw [Int.neg_mul] at p2
  have y2 : y ≤ 33554432 := by
    have : y * 1 ≤ y * step := Int.mul_le_mul_of_nonneg_left hs.1 (by omega)
    omega
  exact ⟨hv1, hc, by omega, hK.1, by omega, by omega⟩
/-- .. it lies within what all prices lie within, where these are multiples -/
theorem vw_within {l : List Tick} {step mode x y : Int} (hg : Good l) (hs : 1 ≤ step ∧ step ≤ 16777216) (h1 : 1 ≤ mode) (h5 : mode ≤ 5) (h0 : 0 < l.length)
    (h : ∀ k, k < l.length → x * step ≤ (tAt l k).price ∧ (tAt l k).price ≤ y * step) (hx : -16777216 ≤ x * step ∧ x * step ≤ 16777216) (hy : -16777216 ≤ y * step ∧ y * step ≤ 16777216) :
    x * step ≤ vwK l step mode * step ∧ vwK l step mode * step ≤ y * step := by
  obtain ⟨hv, hc, ha, _, _, _⟩ := vw_bounds (mode := mode) hg hs h1 h5 h0
  have hb := val_between hg h l.length (Nat.le_refl _)
  rw [volU_all, valU_all] at hb
  have ex : x * step * vol l = x * (vol l * step) := by rw [Int.mul_assoc, Int.mul_comm step]
  have ey : y * step * vol l = y * (vol l * step) := by rw [Int.mul_assoc, Int.mul_comm step]
  have bx : -16777216 * vol l ≤ x * step * vol l := Int.mul_le_mul_of_nonneg_right hx.1 (by omega)
  have bx2 : x * step * vol l ≤ 16777216 * vol l := Int.mul_le_mul_of_nonneg_right hx.2 (by omega)
  have by1 : -16777216 * vol l ≤ y * step * vol l := Int.mul_le_mul_of_nonneg_right hy.1 (by omega)
  have by2 : y * step * vol l ≤ 16777216 * vol l := Int.mul_le_mul_of_nonneg_right hy.2 (by omega)
  rw [ex] at hb bx bx2
  rw [ey] at hb by1 by2
  obtain ⟨_, m1, m2⟩ := md_between (mode := mode) ⟨hc.1, by omega⟩ h1 h5 hb.1 hb.2 (by omega) (by omega)
  exact ⟨Int.mul_le_mul_of_nonneg_right m1 (by omega), Int.mul_le_mul_of_nonneg_right m2 (by omega)⟩
def volN (l : List Tick) : Int := if allE l = 0 then vol l else 0
theorem vw_check {l : List Tick} {step mode : Int} (h : allE l ≠ 0) : vwE l step mode = allE l ∧ vwN l step mode = 0 := by
  have e : vwE l step mode = allE l := by unfold vwE; rw [if_pos h]
  exact ⟨e, by unfold vwN; rw [e, if_neg h]⟩
theorem vw_step {l : List Tick} {step mode : Int} (h : allE l = 0) (h2 : QM.within step 1 16777216 = false) : vwE l step mode = 16 ∧ vwN l step mode = 0 := by
  have e : vwE l step mode = 16 := by unfold vwE; rw [if_neg (by simp [h]), h2]; rfl
  exact ⟨e, by unfold vwN; rw [e]; rfl⟩
theorem vw_mode {l : List Tick} {step mode : Int} (h : allE l = 0) (h2 : QM.within step 1 16777216 = true) (h3 : QM.within mode 1 5 = false) : vwE l step mode = 2 ∧ vwN l step mode = 0 := by
  have e : vwE l step mode = 2 := by unfold vwE; rw [if_neg (by simp [h]), h2, h3, if_neg (by simp), if_pos rfl]
  exact ⟨e, by unfold vwN; rw [e]; rfl⟩
theorem vw_none {l : List Tick} {step mode : Int} (h : allE l = 0) (h2 : QM.within step 1 16777216 = true) (h3 : QM.within mode 1 5 = true) (h4 : l.length = 0) : vwE l step mode = 11 ∧ vwN l step mode = 0 := by
  have e : vwE l step mode = 11 := by unfold vwE; rw [if_neg (by simp [h]), h2, h3, if_neg (by simp), if_neg (by simp), if_pos h4]
  exact ⟨e, by unfold vwN; rw [e]; rfl⟩
theorem vw_ok {l : List Tick} {step mode : Int} (h : allE l = 0) (h2 : QM.within step 1 16777216 = true) (h3 : QM.within mode 1 5 = true) (h4 : 0 < l.length) : vwE l step mode = 0 ∧ vwN l step mode = vwK l step mode * step := by
  have e : vwE l step mode = 0 := by unfold vwE; rw [if_neg (by simp [h]), h2, h3, if_neg (by simp), if_neg (by simp), if_neg (by omega)]
  exact ⟨e, by unfold vwN; rw [e]; rfl⟩
/-- a window -/
def win (l : List Tick) (a b : Int) : List Tick := l.filter fun t => QM.within t.time a b
def winU (l : List Tick) (a b : Int) (k : Nat) : List Tick := win (l.take k) a b
theorem winU_zero (l : List Tick) (a b : Int) : winU l a b 0 = [] := rfl
theorem winU_all (l : List Tick) (a b : Int) : winU l a b l.length = win l a b := by unfold winU; rw [List.take_length]
theorem winU_in {l : List Tick} {a b : Int} {k : Nat} (h : k < l.length) (hi : QM.within (tAt l k).time a b = true) : winU l a b (k + 1) = winU l a b k ++ [tAt l k] := by
  unfold winU win; rw [take_succ h, List.filter_append]; simp [hi]
theorem winU_out {l : List Tick} {a b : Int} {k : Nat} (h : k < l.length) (hi : QM.within (tAt l k).time a b = false) : winU l a b (k + 1) = winU l a b k := by
  unfold winU win; rw [take_succ h, List.filter_append]; simp [hi]
theorem winU_len (l : List Tick) (a b : Int) (k : Nat) (hk : k ≤ l.length) : (winU l a b k).length ≤ k := by
  unfold winU win
  have := List.length_filter_le (fun t => QM.within t.time a b) (l.take k)
  rw [List.length_take] at this
  omega
theorem win_mem {l : List Tick} {a b : Int} {t : Tick} : t ∈ win l a b ↔ t ∈ l ∧ a ≤ t.time ∧ t.time ≤ b := by unfold win; rw [List.mem_filter, QM.within_true]
/-- what is last -/
def lastT (l : List Tick) : Tick := if l.length = 0 then zero else tAt l (l.length - 1)
end TP
