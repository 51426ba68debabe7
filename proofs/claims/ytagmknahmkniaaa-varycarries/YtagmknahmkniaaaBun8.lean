/- Put together: TapeMath, TapeMath2, MarkMath, MrkA0, MarkMath2a, MarkCells. -/
import Derived.Test.YtagmknahmkniaaaBun2
import Derived.Test.YtagmknahmkniaaaBun4
import Derived.Test.YtagmknahmkniaaaBun5
import Derived.Test.YtagmknahmkniaaaBun7
import Derived.Test.YtagmknahmkniaaaBun3
/- Layer 17's mathematics: tapes. -/
namespace TP
set_option linter.unusedVariables false
structure Tick where
  time : Int
  qty : Int
  price : Int
def zero : Tick := ⟨0, 0, 0⟩
def tAt (l : List Tick) (k : Nat) : Tick := l.getD k zero
theorem tAt_get {l : List Tick} {k : Nat} (h : k < l.length) : tAt l k = l[k] := by simp [tAt, List.getD, h]
def prev (l : List Tick) (k : Nat) : Int := if k = 0 then 0 else (tAt l (k - 1)).time
theorem prev_zero (l : List Tick) : prev l 0 = 0 := rfl
theorem prev_succ (l : List Tick) (k : Nat) : prev l (k + 1) = (tAt l k).time := by unfold prev; simp
def oneT (a : Int) (t : Tick) : Int :=
  if QM.within t.time a 86399 = false then 2 else if QM.within t.qty 1 1048576 = false then 18 else if QM.within t.price (-16777216) 16777216 = false then 17 else 0
def oneE (l : List Tick) (k : Nat) : Int := oneT (prev l k) (tAt l k)
def uptoE (l : List Tick) : Nat → Int
  | 0 => 0
  | k + 1 => if uptoE l k = 0 then oneE l k else uptoE l k
def allE (l : List Tick) : Int := if 1024 < l.length then 8 else uptoE l l.length
theorem upto_stay {l : List Tick} {k : Nat} (h : uptoE l k ≠ 0) : ∀ m, uptoE l (k + m) = uptoE l k := by
  intro m
  induction m with
  | zero => rfl
  | succ m ih => rw [← Nat.add_assoc, uptoE, ih, if_neg h]
theorem all_stop {l : List Tick} {k : Nat} (hl : ¬ 1024 < l.length) (hk : k < l.length) (h : uptoE l k = 0) (h2 : oneE l k ≠ 0) : allE l = oneE l k := by
  have e : uptoE l (k + 1) = oneE l k := by rw [uptoE, if_pos h]
  unfold allE
  rw [if_neg hl]
  have := @upto_stay l (k + 1) (by rw [e]; exact h2) (l.length - (k + 1))
  rw [show k + 1 + (l.length - (k + 1)) = l.length by omega] at this
  rw [this, e]
theorem upto_step {l : List Tick} {k : Nat} (h : uptoE l k = 0) (h2 : oneE l k = 0) : uptoE l (k + 1) = 0 := by rw [uptoE, if_pos h]; exact h2
theorem upto_back {l : List Tick} {n : Nat} (h : uptoE l n = 0) : ∀ k, k < n → oneE l k = 0 := by
  induction n with
  | zero => intro k hk; omega
  | succ n ih =>
    intro k hk
    rw [uptoE] at h
    by_cases hn : uptoE l n = 0
    · rw [if_pos hn] at h
      rcases Nat.lt_or_ge k n with g | g
      · exact ih hn k g
      · obtain rfl : k = n := by omega
        exact h
    · rw [if_neg hn] at h; exact absurd h hn
theorem oneT_zero {a : Int} {t : Tick} : oneT a t = 0 ↔ (a ≤ t.time ∧ t.time ≤ 86399) ∧ (1 ≤ t.qty ∧ t.qty ≤ 1048576) ∧ (-16777216 ≤ t.price ∧ t.price ≤ 16777216) := by
  rw [← QM.within_true, ← QM.within_true, ← QM.within_true]
  unfold oneT
  cases QM.within t.time a 86399 <;> cases QM.within t.qty 1 1048576 <;> cases QM.within t.price (-16777216) 16777216 <;> simp
theorem one_time {a : Int} {t : Tick} (h : ¬ (a ≤ t.time ∧ t.time ≤ 86399)) : oneT a t = 2 := by
  unfold oneT; rw [if_pos (by rw [QM.within_false]; omega)]
theorem one_qty {a : Int} {t : Tick} (h : a ≤ t.time ∧ t.time ≤ 86399) (h2 : ¬ (1 ≤ t.qty ∧ t.qty ≤ 1048576)) : oneT a t = 18 := by
  unfold oneT; rw [QM.within_true.2 h, if_neg (by simp), if_pos (by rw [QM.within_false]; omega)]
theorem one_price {a : Int} {t : Tick} (h : a ≤ t.time ∧ t.time ≤ 86399) (h2 : 1 ≤ t.qty ∧ t.qty ≤ 1048576) (h3 : ¬ (-16777216 ≤ t.price ∧ t.price ≤ 16777216)) : oneT a t = 17 := by
  unfold oneT; rw [QM.within_true.2 h, if_neg (by simp), QM.within_true.2 h2, if_neg (by simp), if_pos (by rw [QM.within_false]; omega)]
/-- what ticks that were checked are -/
structure Good (l : List Tick) : Prop where
  len : l.length ≤ 1024
  each : ∀ k, k < l.length → (0 ≤ (tAt l k).time ∧ (tAt l k).time ≤ 86399) ∧ (1 ≤ (tAt l k).qty ∧ (tAt l k).qty ≤ 1048576) ∧ (-16777216 ≤ (tAt l k).price ∧ (tAt l k).price ≤ 16777216)
  rise : ∀ k, k + 1 < l.length → (tAt l k).time ≤ (tAt l (k + 1)).time
theorem good {l : List Tick} (h : allE l = 0) : Good l := by
  unfold allE at h
  split at h
  · cases h
  · rename_i hl
    have hb := fun k hk => oneT_zero.1 (upto_back h k hk)
    have h0 : ∀ k, k < l.length → 0 ≤ (tAt l k).time := by
      intro k
      induction k with
      | zero => intro hk; have := (hb 0 hk).1.1; rw [prev_zero] at this; exact this
      | succ k ih => intro hk; have := (hb (k + 1) hk).1.1; rw [prev_succ] at this; have := ih (by omega); omega
    refine ⟨by omega, fun k hk => ⟨⟨h0 k hk, (hb k hk).1.2⟩, (hb k hk).2⟩, fun k hk => ?_⟩
    have := (hb (k + 1) hk).1.1
    rw [prev_succ] at this
    exact this
theorem upto_of {l : List Tick} (hg : Good l) : ∀ k, k ≤ l.length → uptoE l k = 0 := by
  intro k
  induction k with
  | zero => intro _; rfl
  | succ k ih =>
    intro hk
    refine upto_step (ih (by omega)) (oneT_zero.2 ?_)
    obtain ⟨a, b, c⟩ := hg.each k (by omega)
    refine ⟨⟨?_, a.2⟩, b, c⟩
    cases k with
    | zero => exact a.1
    | succ k => rw [prev_succ]; exact hg.rise k (by omega)
theorem of_good {l : List Tick} (hg : Good l) : allE l = 0 := by
  unfold allE; rw [if_neg (by have := hg.len; omega)]; exact upto_of hg _ (Nat.le_refl _)
theorem prev_ge {l : List Tick} {k : Nat} (hk : k ≤ l.length) (h : uptoE l k = 0) : 0 ≤ prev l k := by
  induction k with
  | zero => exact Int.le_refl _
  | succ k ih =>
    have h1 := upto_back h k (by omega)
    have h2 : uptoE l k = 0 := by
      rw [uptoE] at h
      by_cases hn : uptoE l k = 0
      · exact hn
      · rw [if_neg hn] at h; exact absurd h hn
    have := (oneT_zero.1 h1).1.1
    have := ih (by omega) h2
    rw [prev_succ]; omega

/-- sums -/
def vol : List Tick → Int
  | [] => 0
  | t :: l => t.qty + vol l
def val : List Tick → Int
  | [] => 0
  | t :: l => t.price * t.qty + val l
theorem vol_append (a b : List Tick) : vol (a ++ b) = vol a + vol b := by
  induction a with
  | nil => simp [vol]
  | cons t a ih => rw [List.cons_append, vol, ih, vol]; omega
theorem val_append (a b : List Tick) : val (a ++ b) = val a + val b := by
  induction a with
  | nil => simp [val]
  | cons t a ih => rw [List.cons_append, val, ih, val]; omega
theorem take_succ {l : List Tick} {k : Nat} (h : k < l.length) : l.take (k + 1) = l.take k ++ [tAt l k] := by
  rw [tAt_get h, List.take_add_one, List.getElem?_eq_getElem h]; rfl
def volU (l : List Tick) (k : Nat) : Int := vol (l.take k)
def valU (l : List Tick) (k : Nat) : Int := val (l.take k)
theorem volU_zero (l : List Tick) : volU l 0 = 0 := rfl
theorem valU_zero (l : List Tick) : valU l 0 = 0 := rfl
theorem volU_all (l : List Tick) : volU l l.length = vol l := by unfold volU; rw [List.take_length]
theorem valU_all (l : List Tick) : valU l l.length = val l := by unfold valU; rw [List.take_length]
theorem volU_succ {l : List Tick} {k : Nat} (h : k < l.length) : volU l (k + 1) = volU l k + (tAt l k).qty := by
  unfold volU; rw [take_succ h, vol_append]; simp [vol]
theorem valU_succ {l : List Tick} {k : Nat} (h : k < l.length) : valU l (k + 1) = valU l k + (tAt l k).price * (tAt l k).qty := by
  unfold valU; rw [take_succ h, val_append]; simp [val]
theorem mul_bound {p q : Int} (hp : -16777216 ≤ p ∧ p ≤ 16777216) (hq : 1 ≤ q ∧ q ≤ 1048576) : -17592186044416 ≤ p * q ∧ p * q ≤ 17592186044416 := by
  have h1 : p * q ≤ 16777216 * q := Int.mul_le_mul_of_nonneg_right hp.2 (by omega)
  have h2 : (-16777216) * q ≤ p * q := Int.mul_le_mul_of_nonneg_right hp.1 (by omega)
  omega
theorem vol_bounds {l : List Tick} (hg : Good l) : ∀ k, k ≤ l.length → (k : Int) ≤ volU l k ∧ volU l k ≤ 1048576 * (k : Int) := by
  intro k
  induction k with
  | zero => intro _; rw [volU_zero]; omega
  | succ k ih =>
    intro hk
    have := ih (by omega)
    have := (hg.each k (by omega)).2.1
    rw [volU_succ (by omega)]; omega
theorem val_bounds {l : List Tick} (hg : Good l) : ∀ k, k ≤ l.length → -(17592186044416 * (k : Int)) ≤ valU l k ∧ valU l k ≤ 17592186044416 * (k : Int) := by
  intro k
  induction k with
  | zero => intro _; rw [valU_zero]; omega
  | succ k ih =>
    intro hk
    have := ih (by omega)
    have h1 := hg.each k (by omega)
    have := mul_bound h1.2.2 h1.2.1
    rw [valU_succ (by omega)]; omega
/-- the value lies between the lots at the least and at the greatest price -/
theorem val_between {l : List Tick} (hg : Good l) {x y : Int} (h : ∀ k, k < l.length → x ≤ (tAt l k).price ∧ (tAt l k).price ≤ y) : ∀ k, k ≤ l.length → x * volU l k ≤ valU l k ∧ valU l k ≤ y * volU l k := by
  intro k
  induction k with
  | zero => intro _; rw [valU_zero, volU_zero]; omega
  | succ k ih =>
    intro hk
    obtain ⟨i1, i2⟩ := ih (by omega)
    have h1 := (hg.each k (by omega)).2.1
    obtain ⟨h2, h3⟩ := h k (by omega)
    rw [valU_succ (by omega), volU_succ (by omega), Int.mul_add, Int.mul_add]
    have := Int.mul_le_mul_of_nonneg_right h2 (show 0 ≤ (tAt l k).qty by omega)
    have := Int.mul_le_mul_of_nonneg_right h3 (show 0 ≤ (tAt l k).qty by omega)
    omega

/-- the lowest and the highest price of the first k -/
def lowU (l : List Tick) : Nat → Int
  | 0 => (tAt l 0).price
  | k + 1 => if (tAt l k).price < lowU l k then (tAt l k).price else lowU l k
def highU (l : List Tick) : Nat → Int
  | 0 => (tAt l 0).price
  | k + 1 => if highU l k < (tAt l k).price then (tAt l k).price else highU l k
theorem lowU_one (l : List Tick) : lowU l 1 = (tAt l 0).price := by unfold lowU lowU; rw [if_neg (by omega)]
theorem highU_one (l : List Tick) : highU l 1 = (tAt l 0).price := by unfold highU highU; rw [if_neg (by omega)]
theorem lowU_le {l : List Tick} : ∀ k j, j < k → lowU l k ≤ (tAt l j).price := by
  intro k
  induction k with
  | zero => intro j hj; omega
  | succ k ih =>
    intro j hj
    rw [lowU]
    rcases Nat.lt_or_ge j k with g | g
    · have := ih j g; split <;> omega
    · obtain rfl : j = k := by omega
      split <;> omega
theorem le_highU {l : List Tick} : ∀ k j, j < k → (tAt l j).price ≤ highU l k := by
  intro k
  induction k with
  | zero => intro j hj; omega
  | succ k ih =>
    intro j hj
    rw [highU]
    rcases Nat.lt_or_ge j k with g | g
    · have := ih j g; split <;> omega
    · obtain rfl : j = k := by omega
      split <;> omega
theorem lowU_mem {l : List Tick} (h0 : 0 < l.length) : ∀ k, k ≤ l.length → ∃ j, j < l.length ∧ lowU l k = (tAt l j).price := by
  intro k
  induction k with
  | zero => intro _; exact ⟨0, h0, rfl⟩
  | succ k ih =>
    intro hk
    rw [lowU]
    split
    · exact ⟨k, by omega, rfl⟩
    · exact ih (by omega)
theorem highU_mem {l : List Tick} (h0 : 0 < l.length) : ∀ k, k ≤ l.length → ∃ j, j < l.length ∧ highU l k = (tAt l j).price := by
  intro k
  induction k with
  | zero => intro _; exact ⟨0, h0, rfl⟩
  | succ k ih =>
    intro hk
    rw [highU]
    split
    · exact ⟨k, by omega, rfl⟩
    · exact ih (by omega)
def lowN (l : List Tick) : Int := if l.length = 0 then 0 else lowU l l.length
def highN (l : List Tick) : Int := if l.length = 0 then 0 else highU l l.length

/-- a quotient by MulDiv lies between what its dividend lies between -/
theorem md_small {a c mode : Int} (ha : -1152921504606846975 ≤ a ∧ a ≤ 1152921504606846975) (hc : 1 ≤ c ∧ c ≤ 1152921504606846976) (h1 : 1 ≤ mode) (h5 : mode ≤ 5) : CM.mdE a 1 c mode = 0 := by
  have hA : CM.mdA a 1 c mode = true := by
    have f1 : CM.fits a = true := CM.fits_true.2 (by omega)
    have f2 : CM.fits c = true := CM.fits_true.2 (by omega)
    simp [CM.mdA, f1, f2, CM.fits_one, h1, h5]
  have hq : CM.mdQ a 1 c ≤ (CM.size a).toNat := by
    unfold CM.mdQ
    rw [show (CM.size 1).toNat = 1 from rfl, Nat.mul_one]
    exact Nat.div_le_self _ _
  have hs : CM.size a ≤ 1152921504606846975 := by unfold CM.size; split <;> omega
  have h0 := CM.size_nonneg a
  have hg : CM.mdG a 1 c mode ≤ 1152921504606846976 := by unfold CM.mdG; split <;> omega
  simp [CM.mdE, hA, show c ≠ 0 by omega, hg]
theorem md_between {a c x y mode : Int} (hc : 1 ≤ c ∧ c ≤ 1152921504606846976) (h1 : 1 ≤ mode) (h5 : mode ≤ 5) (hx : x * c ≤ a) (hy : a ≤ y * c)
    (bx : -1152921504606846975 ≤ x * c) (by_ : y * c ≤ 1152921504606846975) : CM.mdE a 1 c mode = 0 ∧ x ≤ CM.mdN a 1 c mode ∧ CM.mdN a 1 c mode ≤ y := by
  have e := md_small (a := a) (c := c) (mode := mode) (by omega) hc h1 h5
  have fc : CM.fits c = true := CM.fits_true.2 (by omega)
  have key : ∀ z : Int, -1152921504606846975 ≤ z * c → z * c ≤ 1152921504606846975 → CM.mdN (z * c) 1 c mode = z ∧ CM.mdE (z * c) 1 c mode = 0 := by
    intro z z1 z2
    have : -1152921504606846976 ≤ z ∧ z ≤ 1152921504606846976 := by
      constructor
      · apply Classical.byContradiction
        intro h
        have : z * c ≤ z * 1 := Int.mul_le_mul_of_nonpos_left (by omega) hc.1
        omega
      · apply Classical.byContradiction
        intro h
        have : z * 1 ≤ z * c := Int.mul_le_mul_of_nonneg_left hc.1 (by omega)
        omega
    exact QM.md_exact hc.1 (CM.fits_true.2 (by omega)) (CM.fits_true.2 this) fc h1 h5
  obtain ⟨k1, k2⟩ := key x bx (by omega)
  obtain ⟨k3, k4⟩ := key y (by omega) by_
  refine ⟨e, ?_, ?_⟩
  · have := CM.md_rises (b := 1) (by omega) (by omega) hx k2 e; rw [k1] at this; exact this
  · have := CM.md_rises (b := 1) (by omega) (by omega) hy e k4; rw [k3] at this; exact this
/-- the average -/
def vwE (l : List Tick) (step mode : Int) : Int :=
  if allE l ≠ 0 then allE l else if QM.within step 1 16777216 = false then 16 else if QM.within mode 1 5 = false then 2 else if l.length = 0 then 11 else 0
def vwK (l : List Tick) (step mode : Int) : Int := CM.mdN (val l) 1 (vol l * step) mode
def vwN (l : List Tick) (step mode : Int) : Int := if vwE l step mode = 0 then vwK l step mode * step else 0
theorem vw_zero {l : List Tick} {step mode : Int} (h : vwE l step mode = 0) : Good l ∧ (1 ≤ step ∧ step ≤ 16777216) ∧ (1 ≤ mode ∧ mode ≤ 5) ∧ 0 < l.length := by
  unfold vwE at h
  by_cases h1 : allE l = 0
  · rw [if_neg (by simp [h1])] at h
    cases h2 : QM.within step 1 16777216
    · rw [h2] at h; simp at h
    · cases h3 : QM.within mode 1 5
      · rw [h2, h3] at h; simp at h
      · rw [h2, h3] at h
        refine ⟨good h1, QM.within_true.1 h2, QM.within_true.1 h3, ?_⟩
        by_cases h4 : l.length = 0
        · rw [if_pos h4] at h; simp at h
        · omega
  · rw [if_pos h1] at h; exact absurd h h1
/-- what is multiplied and divided in an average, and what comes out -/
theorem vw_bounds {l : List Tick} {step mode : Int} (hg : Good l) (hs : 1 ≤ step ∧ step ≤ 16777216) (h1 : 1 ≤ mode) (h5 : mode ≤ 5) (h0 : 0 < l.length) :
    (1 ≤ vol l ∧ vol l ≤ 1073741824) ∧ (1 ≤ vol l * step ∧ vol l * step ≤ 18014398509481984) ∧ (-18014398509481984 ≤ val l ∧ val l ≤ 18014398509481984) ∧
      CM.mdE (val l) 1 (vol l * step) mode = 0 ∧ (-33554432 ≤ vwK l step mode ∧ vwK l step mode ≤ 33554432) ∧ (-33554432 ≤ vwK l step mode * step ∧ vwK l step mode * step ≤ 33554432) := by
  have hl := hg.len
  have hv := vol_bounds hg l.length (Nat.le_refl _)
  have ha := val_bounds hg l.length (Nat.le_refl _)
  have hb := val_between hg (x := -16777216) (y := 16777216) (fun k hk => (hg.each k hk).2.2) l.length (Nat.le_refl _)
  rw [volU_all] at hv hb
  rw [valU_all] at ha hb
  have hv1 : 1 ≤ vol l ∧ vol l ≤ 1073741824 := by omega
  have hm1 : vol l * 1 ≤ vol l * step := Int.mul_le_mul_of_nonneg_left hs.1 (by omega)
  have hm2 : vol l * step ≤ vol l * 16777216 := Int.mul_le_mul_of_nonneg_left hs.2 (by omega)
  have hc : 1 ≤ vol l * step ∧ vol l * step ≤ 18014398509481984 := by omega
  have d1 := Int.mul_ediv_add_emod 16777216 step
  have d2 := Int.emod_nonneg 16777216 (show step ≠ 0 by omega)
  have d3 := Int.emod_lt_of_pos 16777216 (show 0 < step by omega)
  obtain ⟨y, hy⟩ : ∃ y : Int, y = 16777216 / step + 1 := ⟨_, rfl⟩
  have ys : y * step = step * (16777216 / step) + step := by rw [hy, Int.add_mul, Int.one_mul, Int.mul_comm]
  have y1 : 16777216 ≤ y * step ∧ y * step ≤ 33554432 := by omega
  have y0 : 1 ≤ y := by have := Int.ediv_nonneg (show (0 : Int) ≤ 16777216 by omega) (show 0 ≤ step by omega); omega
  have e : y * (vol l * step) = y * step * vol l := by rw [Int.mul_assoc, Int.mul_comm step]
  have e2 : -y * (vol l * step) = -(y * step * vol l) := by rw [Int.neg_mul, e]
  have b1 : 16777216 * vol l ≤ y * step * vol l := Int.mul_le_mul_of_nonneg_right y1.1 (by omega)
  have b2 : y * step * vol l ≤ 33554432 * vol l := Int.mul_le_mul_of_nonneg_right y1.2 (by omega)
  have hK := md_between (a := val l) (c := vol l * step) (x := -y) (y := y) (mode := mode) ⟨hc.1, by omega⟩ h1 h5 (by rw [e2]; omega) (by rw [e]; omega) (by rw [e2]; omega) (by rw [e]; omega)
  have hk : -y ≤ vwK l step mode ∧ vwK l step mode ≤ y := hK.2
  have p1 : vwK l step mode * step ≤ y * step := Int.mul_le_mul_of_nonneg_right hk.2 (by omega)
  have p2 : (-y) * step ≤ vwK l step mode * step := Int.mul_le_mul_of_nonneg_right hk.1 (by omega)
  rw [Int.neg_mul] at p2
  have y2 : y ≤ 33554432 := by
    have : y * 1 ≤ y * step := Int.mul_le_mul_of_nonneg_left hs.1 (by omega)
    omega
  exact ⟨hv1, hc, by omega, hK.1, by omega, by omega⟩
/-- .. it lies within what all prices lie within, where these are multiples -/
theorem vw_within {l : List Tick} {step mode x y : Int} (hg : Good l) (hs : 1 ≤ step ∧ step ≤ 16777216) (h1 : 1 ≤ mode) (h5 : mode ≤ 5) (h0 : 0 < l.length)
    (h : ∀ k, k < l.length → x * step ≤ (tAt l k).price ∧ (tAt l k).price ≤ y * step) (hx : -16777216 ≤ x * step ∧ x * step ≤ 16777216) (hy : -16777216 ≤ y * step ∧ y * step ≤ 16777216) :
    x * step ≤ vwK l step mode * step ∧ vwK l step mode * step ≤ y * step := by
  obtain ⟨hv, hc, ha, _, _, _⟩ := vw_bounds (mode := mode) hg hs h1 h5 h0
  have hb := val_between hg h l.length (Nat.le_refl _)
  rw [volU_all, valU_all] at hb
  have ex : x * step * vol l = x * (vol l * step) := by rw [Int.mul_assoc, Int.mul_comm step]
  have ey : y * step * vol l = y * (vol l * step) := by rw [Int.mul_assoc, Int.mul_comm step]
  have bx : -16777216 * vol l ≤ x * step * vol l := Int.mul_le_mul_of_nonneg_right hx.1 (by omega)
  have bx2 : x * step * vol l ≤ 16777216 * vol l := Int.mul_le_mul_of_nonneg_right hx.2 (by omega)
  have by1 : -16777216 * vol l ≤ y * step * vol l := Int.mul_le_mul_of_nonneg_right hy.1 (by omega)
  have by2 : y * step * vol l ≤ 16777216 * vol l := Int.mul_le_mul_of_nonneg_right hy.2 (by omega)
  rw [ex] at hb bx bx2
  rw [ey] at hb by1 by2
  obtain ⟨_, m1, m2⟩ := md_between (mode := mode) ⟨hc.1, by omega⟩ h1 h5 hb.1 hb.2 (by omega) (by omega)
  exact ⟨Int.mul_le_mul_of_nonneg_right m1 (by omega), Int.mul_le_mul_of_nonneg_right m2 (by omega)⟩
def volN (l : List Tick) : Int := if allE l = 0 then vol l else 0
theorem vw_check {l : List Tick} {step mode : Int} (h : allE l ≠ 0) : vwE l step mode = allE l ∧ vwN l step mode = 0 := by
  have e : vwE l step mode = allE l := by unfold vwE; rw [if_pos h]
  exact ⟨e, by unfold vwN; rw [e, if_neg h]⟩
theorem vw_step {l : List Tick} {step mode : Int} (h : allE l = 0) (h2 : QM.within step 1 16777216 = false) : vwE l step mode = 16 ∧ vwN l step mode = 0 := by
  have e : vwE l step mode = 16 := by unfold vwE; rw [if_neg (by simp [h]), h2]; rfl
  exact ⟨e, by unfold vwN; rw [e]; rfl⟩
theorem vw_mode {l : List Tick} {step mode : Int} (h : allE l = 0) (h2 : QM.within step 1 16777216 = true) (h3 : QM.within mode 1 5 = false) : vwE l step mode = 2 ∧ vwN l step mode = 0 := by
  have e : vwE l step mode = 2 := by unfold vwE; rw [if_neg (by simp [h]), h2, h3, if_neg (by simp), if_pos rfl]
  exact ⟨e, by unfold vwN; rw [e]; rfl⟩
theorem vw_none {l : List Tick} {step mode : Int} (h : allE l = 0) (h2 : QM.within step 1 16777216 = true) (h3 : QM.within mode 1 5 = true) (h4 : l.length = 0) : vwE l step mode = 11 ∧ vwN l step mode = 0 := by
  have e : vwE l step mode = 11 := by unfold vwE; rw [if_neg (by simp [h]), h2, h3, if_neg (by simp), if_neg (by simp), if_pos h4]
  exact ⟨e, by unfold vwN; rw [e]; rfl⟩
theorem vw_ok {l : List Tick} {step mode : Int} (h : allE l = 0) (h2 : QM.within step 1 16777216 = true) (h3 : QM.within mode 1 5 = true) (h4 : 0 < l.length) : vwE l step mode = 0 ∧ vwN l step mode = vwK l step mode * step := by
  have e : vwE l step mode = 0 := by unfold vwE; rw [if_neg (by simp [h]), h2, h3, if_neg (by simp), if_neg (by simp), if_neg (by omega)]
  exact ⟨e, by unfold vwN; rw [e]; rfl⟩
/-- a window -/
def win (l : List Tick) (a b : Int) : List Tick := l.filter fun t => QM.within t.time a b
def winU (l : List Tick) (a b : Int) (k : Nat) : List Tick := win (l.take k) a b
theorem winU_zero (l : List Tick) (a b : Int) : winU l a b 0 = [] := rfl
theorem winU_all (l : List Tick) (a b : Int) : winU l a b l.length = win l a b := by unfold winU; rw [List.take_length]
theorem winU_in {l : List Tick} {a b : Int} {k : Nat} (h : k < l.length) (hi : QM.within (tAt l k).time a b = true) : winU l a b (k + 1) = winU l a b k ++ [tAt l k] := by
  unfold winU win; rw [take_succ h, List.filter_append]; simp [hi]
theorem winU_out {l : List Tick} {a b : Int} {k : Nat} (h : k < l.length) (hi : QM.within (tAt l k).time a b = false) : winU l a b (k + 1) = winU l a b k := by
  unfold winU win; rw [take_succ h, List.filter_append]; simp [hi]
theorem winU_len (l : List Tick) (a b : Int) (k : Nat) (hk : k ≤ l.length) : (winU l a b k).length ≤ k := by
  unfold winU win
  have := List.length_filter_le (fun t => QM.within t.time a b) (l.take k)
  rw [List.length_take] at this
  omega
theorem win_mem {l : List Tick} {a b : Int} {t : Tick} : t ∈ win l a b ↔ t ∈ l ∧ a ≤ t.time ∧ t.time ≤ b := by unfold win; rw [List.mem_filter, QM.within_true]
/-- what is last -/
def lastT (l : List Tick) : Tick := if l.length = 0 then zero else tAt l (l.length - 1)
end TP

/- Layer 17's mathematics: what follows. -/
namespace TP
set_option linter.unusedVariables false
theorem vw_modes {l : List Tick} {step m m' : Int} (h : 1 ≤ m ∧ m ≤ 5) (h' : 1 ≤ m' ∧ m' ≤ 5) : vwE l step m = vwE l step m' := by
  unfold vwE; rw [QM.within_true.2 h, QM.within_true.2 h']
theorem vw_bad {l : List Tick} {step m : Int} (h : vwE l step m ≠ 0) : vwN l step m = 0 := by unfold vwN; rw [if_neg h]
theorem within {l : List Tick} (h : vwE l 1 3 = 0) : 0 < l.length ∧ lowN l ≤ vwN l 1 3 ∧ vwN l 1 3 ≤ vwN l 1 4 ∧ vwN l 1 4 ≤ highN l ∧ vwN l 1 4 - vwN l 1 3 ≤ 1 ∧ (-33554432 ≤ vwN l 1 3 ∧ vwN l 1 4 ≤ 33554432) := by
  obtain ⟨hg, hs, hm, h0⟩ := vw_zero h
  have h4 : vwE l 1 4 = 0 := by rw [vw_modes (m := 4) (m' := 3) (by omega) (by omega)]; exact h
  have e3 : vwN l 1 3 = vwK l 1 3 := by unfold vwN; rw [if_pos h, Int.mul_one]
  have e4 : vwN l 1 4 = vwK l 1 4 := by unfold vwN; rw [if_pos h4, Int.mul_one]
  have eL : lowN l = lowU l l.length := by unfold lowN; rw [if_neg (by omega)]
  have eH : highN l = highU l l.length := by unfold highN; rw [if_neg (by omega)]
  obtain ⟨j, hj, ej⟩ := lowU_mem h0 l.length (Nat.le_refl _)
  obtain ⟨i, hi, ei⟩ := highU_mem h0 l.length (Nat.le_refl _)
  have bj := (hg.each j hj).2.2
  have bi := (hg.each i hi).2.2
  rw [← ej] at bj
  rw [← ei] at bi
  have hp : ∀ k, k < l.length → lowU l l.length * 1 ≤ (tAt l k).price ∧ (tAt l k).price ≤ highU l l.length * 1 := fun k hk => by
    rw [Int.mul_one, Int.mul_one]; exact ⟨lowU_le _ k hk, le_highU _ k hk⟩
  have w3 := vw_within (mode := 3) hg hs (by omega) (by omega) h0 hp (by omega) (by omega)
  have w4 := vw_within (mode := 4) hg hs (by omega) (by omega) h0 hp (by omega) (by omega)
  obtain ⟨_, _, _, k1, b3, _⟩ := vw_bounds (mode := 3) hg hs (by omega) (by omega) h0
  have k := fun m (hm : 1 ≤ m ∧ m ≤ 5) => (vw_bounds (mode := m) hg hs hm.1 hm.2 h0).2.2.2.1
  have b4 := (vw_bounds (mode := 4) hg hs (by omega) (by omega) h0).2.2.2.2.1
  obtain ⟨q, hq, hl⟩ := CM.md_lie (k 1 (by omega)) (k 2 (by omega)) (k 3 (by omega)) (k 4 (by omega)) (k 5 (by omega))
  have f3 : vwK l 1 3 = CM.mdN (val l) 1 (vol l * 1) 3 := rfl
  have f4 : vwK l 1 4 = CM.mdN (val l) 1 (vol l * 1) 4 := rfl
  rw [← f3, ← f4] at hl
  rw [e3, e4, eL, eH]
  simp only [Int.mul_one] at w3 w4
  refine ⟨h0, w3.1, ?_, w4.2, ?_, ?_⟩ <;> omega
end TP

/- Layer 18's mathematics: quotes and settlement prices. -/
namespace TP
theorem each_mem {l : List Tick} (hg : Good l) {t : Tick} (ht : t ∈ l) : (0 ≤ t.time ∧ t.time ≤ 86399) ∧ (1 ≤ t.qty ∧ t.qty ≤ 1048576) ∧ (-16777216 ≤ t.price ∧ t.price ≤ 16777216) := by
  obtain ⟨k, hk, rfl⟩ := List.getElem_of_mem ht
  rw [← tAt_get hk]; exact hg.each k hk
theorem rises {l : List Tick} (hg : Good l) : ∀ d i, i + d < l.length → (tAt l i).time ≤ (tAt l (i + d)).time := by
  intro d
  induction d with
  | zero => intro i _; exact Int.le_refl _
  | succ d ih =>
    intro i h
    have h1 := ih i (by omega)
    have h2 := hg.rise (i + d) (by omega)
    rw [show i + (d + 1) = i + d + 1 by omega]
    omega
theorem pairs {l : List Tick} (hg : Good l) : l.Pairwise (fun x y => x.time ≤ y.time) := by
  rw [List.pairwise_iff_getElem]
  intro i j hi hj hij
  have := rises hg (j - i) i (by omega)
  rw [show i + (j - i) = j by omega, tAt_get hi, tAt_get hj] at this
  exact this
theorem good_win {l : List Tick} (hg : Good l) (a b : Int) : Good (win l a b) := by
  refine ⟨?_, fun k hk => ?_, fun k hk => ?_⟩
  · have := winU_len l a b l.length (Nat.le_refl _)
    rw [winU_all] at this
    have := hg.len
    omega
  · rw [tAt_get hk]
    exact each_mem hg (win_mem.1 (List.getElem_mem hk)).1
  · have h := (pairs hg).filter (fun t => QM.within t.time a b)
    rw [List.pairwise_iff_getElem] at h
    rw [tAt_get hk, tAt_get (show k < (win l a b).length by omega)]
    exact h k (k + 1) (by show k < (win l a b).length; omega) hk (by omega)
end TP
namespace MK
open QM (Prod within within_true within_false priceE checkE)
set_option linter.unusedVariables false
structure Quote where
  ticks : List TP.Tick
  from_ : Int
  to_ : Int
  least : Int
  bid : Int
  ask : Int
  before : Int
  move : Int
def isP (n : Int) : Bool := within n (-16777216) 16777216
theorem isP_true {n : Int} : isP n = true ↔ -16777216 ≤ n ∧ n ≤ 16777216 := within_true
def midB (b a : Int) : Bool := !isP b || (!isP a || decide (a < b))
def midE (b a t : Int) : Int := if within t 1 16777216 = false then 16 else if midB b a = true then 17 else 0
def midK (b a t : Int) : Int := CM.mdN (b + a) 1 (2 * t) 5
def midN (b a t : Int) : Int := if midE b a t = 0 then midK b a t * t else 0
theorem midB_false {b a : Int} : midB b a = false ↔ (-16777216 ≤ b ∧ b ≤ 16777216) ∧ (-16777216 ≤ a ∧ a ≤ 16777216) ∧ b ≤ a := by
  unfold midB
  rw [← isP_true, ← isP_true]
  cases isP b <;> cases isP a <;> simp
theorem mid_tick {b a t : Int} (h : within t 1 16777216 = false) : midE b a t = 16 ∧ midN b a t = 0 := by
  have e : midE b a t = 16 := by unfold midE; rw [if_pos h]
  exact ⟨e, by unfold midN; rw [e]; rfl⟩
theorem mid_price {b a t : Int} (h : within t 1 16777216 = true) (h2 : midB b a = true) : midE b a t = 17 ∧ midN b a t = 0 := by
  have e : midE b a t = 17 := by unfold midE; rw [if_neg (by simp [h]), if_pos h2]
  exact ⟨e, by unfold midN; rw [e]; rfl⟩
theorem mid_ok {b a t : Int} (h : within t 1 16777216 = true) (h2 : midB b a = false) : midE b a t = 0 ∧ midN b a t = midK b a t * t := by
  have e : midE b a t = 0 := by unfold midE; rw [if_neg (by simp [h]), if_neg (by simp [h2])]
  exact ⟨e, by unfold midN; rw [if_pos e]⟩
theorem mid_zero {b a t : Int} (h : midE b a t = 0) : (1 ≤ t ∧ t ≤ 16777216) ∧ (-16777216 ≤ b ∧ b ≤ 16777216) ∧ (-16777216 ≤ a ∧ a ≤ 16777216) ∧ b ≤ a := by
  cases h1 : within t 1 16777216
  · rw [(mid_tick h1).1] at h; cases h
  · cases h2 : midB b a
    · exact ⟨within_true.1 h1, midB_false.1 h2⟩
    · rw [(mid_price h1 h2).1] at h; cases h
theorem mid_bounds {b a t : Int} (ht : 1 ≤ t ∧ t ≤ 16777216) (hb : -16777216 ≤ b ∧ b ≤ 16777216) (ha : -16777216 ≤ a ∧ a ≤ 16777216) :
    CM.mdE (b + a) 1 (2 * t) 5 = 0 ∧ (-33554432 ≤ midK b a t ∧ midK b a t ≤ 33554432) ∧ (-33554432 ≤ midK b a t * t ∧ midK b a t * t ≤ 33554432) := by
  have d1 := Int.mul_ediv_add_emod 16777216 t
  have d2 := Int.emod_nonneg 16777216 (show t ≠ 0 by omega)
  have d3 := Int.emod_lt_of_pos 16777216 (show 0 < t by omega)
  obtain ⟨y, hy⟩ : ∃ y : Int, y = 16777216 / t + 1 := ⟨_, rfl⟩
  have ys : y * t = t * (16777216 / t) + t := by rw [hy, Int.add_mul, Int.one_mul, Int.mul_comm]
  have y1 : 16777216 ≤ y * t ∧ y * t ≤ 33554432 := by omega
  have e : y * (2 * t) = 2 * (y * t) := by rw [Int.mul_left_comm]
  have e2 : -y * (2 * t) = -(2 * (y * t)) := by rw [Int.neg_mul, e]
  have hK := TP.md_between (a := b + a) (c := 2 * t) (x := -y) (y := y) (mode := 5) ⟨by omega, by omega⟩ (by omega) (by omega) (by rw [e2]; omega) (by rw [e]; omega) (by rw [e2]; omega) (by rw [e]; omega)
  have hk : -y ≤ midK b a t ∧ midK b a t ≤ y := hK.2
  have p1 : midK b a t * t ≤ y * t := Int.mul_le_mul_of_nonneg_right hk.2 (by omega)
  have p2 : (-y) * t ≤ midK b a t * t := Int.mul_le_mul_of_nonneg_right hk.1 (by omega)
  rw [Int.neg_mul] at p2
  have y0 : 0 ≤ y := by have := Int.ediv_nonneg (show (0 : Int) ≤ 16777216 by omega) (show 0 ≤ t by omega); omega
  have y2 : y ≤ 33554432 := by
    have : y * 1 ≤ y * t := Int.mul_le_mul_of_nonneg_left ht.1 y0
    omega
  exact ⟨hK.1, by omega, by omega⟩
theorem mult_of {x t : Int} (h : x.tmod t = 0) : ∃ q, x = q * t := by
  obtain ⟨q, hq⟩ := Int.dvd_of_tmod_eq_zero h
  exact ⟨q, by rw [hq, Int.mul_comm]⟩
theorem mid_between {b a t : Int} (h : midE b a t = 0) (hb : b.tmod t = 0) (ha : a.tmod t = 0) : b ≤ midN b a t ∧ midN b a t ≤ a := by
  obtain ⟨ht, b1, a1, hle⟩ := mid_zero h
  obtain ⟨x, hx⟩ := mult_of hb
  obtain ⟨y, hy⟩ := mult_of ha
  have e : midN b a t = midK b a t * t := by unfold midN; rw [if_pos h]
  have ex : x * (2 * t) = 2 * b := by rw [Int.mul_left_comm, ← hx]
  have ey : y * (2 * t) = 2 * a := by rw [Int.mul_left_comm, ← hy]
  have hK := TP.md_between (a := b + a) (c := 2 * t) (x := x) (y := y) (mode := 5) ⟨by omega, by omega⟩ (by omega) (by omega) (by rw [ex]; omega) (by rw [ey]; omega) (by rw [ex]; omega) (by rw [ey]; omega)
  have hk : x ≤ midK b a t ∧ midK b a t ≤ y := hK.2
  rw [e]
  constructor
  · have := Int.mul_le_mul_of_nonneg_right hk.1 (show 0 ≤ t by omega)
    rw [← hx] at this; exact this
  · have := Int.mul_le_mul_of_nonneg_right hk.2 (show 0 ≤ t by omega)
    rw [← hy] at this; exact this

/-- prices, one after the other -/
def firstE (p : Prod) : List Int → Int
  | [] => 0
  | x :: l => if priceE p x ≠ 0 then priceE p x else firstE p l
theorem first_all {p : Prod} {l : List Int} : firstE p l = 0 ↔ ∀ x ∈ l, priceE p x = 0 := by
  induction l with
  | nil => simp [firstE]
  | cons x l ih =>
    rw [firstE]
    by_cases h : priceE p x = 0
    · rw [if_neg (by simp [h]), ih]; simp [h]
    · rw [if_pos h]; simp [h]
def xAt (l : List Int) (k : Nat) : Int := l.getD k 0
theorem xAt_get {l : List Int} {k : Nat} (h : k < l.length) : xAt l k = l[k] := by simp [xAt, List.getD, h]
theorem first_stop {p : Prod} {l : List Int} : ∀ {k : Nat}, k < l.length → firstE p (l.take k) = 0 → priceE p (xAt l k) ≠ 0 → firstE p l = priceE p (xAt l k) := by
  induction l with
  | nil => intro k hk; simp at hk
  | cons x l ih =>
    intro k hk h1 h2
    cases k with
    | zero => rw [firstE, if_pos (by simpa [xAt] using h2)]; rfl
    | succ k =>
      rw [List.take_succ_cons, firstE] at h1
      by_cases h : priceE p x = 0
      · rw [if_neg (by simp [h])] at h1
        rw [firstE, if_neg (by simp [h])]
        exact ih (by simpa using hk) h1 h2
      · rw [if_pos h] at h1; exact absurd h1 h
theorem first_step {p : Prod} {l : List Int} {k : Nat} (hk : k < l.length) (h1 : firstE p (l.take k) = 0) (h2 : priceE p (xAt l k) = 0) : firstE p (l.take (k + 1)) = 0 := by
  rw [first_all] at h1 ⊢
  intro x hx
  rw [List.take_add_one, List.getElem?_eq_getElem hk] at hx
  rcases List.mem_append.1 hx with hx | hx
  · exact h1 x hx
  · simp at hx; rw [hx, ← xAt_get hk]; exact h2
def side (x : Int) : List Int := if x = 0 then [] else [x]
def prices (q : Quote) : List Int := q.ticks.map (·.price) ++ (side q.bid ++ side q.ask) ++ [q.before]
def both (q : Quote) : Bool := (q.bid != 0) && (q.ask != 0)
theorem both_true {q : Quote} : both q = true ↔ q.bid ≠ 0 ∧ q.ask ≠ 0 := by simp [both]
def timeB (q : Quote) : Bool := within q.from_ 0 86399 && within q.to_ q.from_ 86399
def lastB (q : Quote) : Bool := (both q && decide (q.ask < q.bid)) || !isP q.move
def qE (p : Prod) (q : Quote) : Int :=
  if checkE p ≠ 0 then checkE p else if TP.allE q.ticks ≠ 0 then TP.allE q.ticks else if timeB q = false then 2 else if within q.least 1 1048576 = false then 18 else
  if firstE p (prices q) ≠ 0 then firstE p (prices q) else if lastB q = true then 17 else 0
section
variable {p : Prod} {q : Quote}
theorem q_prod (h : checkE p ≠ 0) : qE p q = checkE p := by unfold qE; rw [if_pos h]
theorem q_tape (h : checkE p = 0) (h2 : TP.allE q.ticks ≠ 0) : qE p q = TP.allE q.ticks := by unfold qE; rw [if_neg (by simp [h]), if_pos h2]
theorem q_time (h : checkE p = 0) (h2 : TP.allE q.ticks = 0) (h3 : timeB q = false) : qE p q = 2 := by unfold qE; rw [if_neg (by simp [h]), if_neg (by simp [h2]), if_pos h3]
theorem q_least (h : checkE p = 0) (h2 : TP.allE q.ticks = 0) (h3 : timeB q = true) (h4 : within q.least 1 1048576 = false) : qE p q = 18 := by
  unfold qE; rw [if_neg (by simp [h]), if_neg (by simp [h2]), if_neg (by simp [h3]), if_pos h4]
theorem q_first (h : checkE p = 0) (h2 : TP.allE q.ticks = 0) (h3 : timeB q = true) (h4 : within q.least 1 1048576 = true) (h5 : firstE p (prices q) ≠ 0) : qE p q = firstE p (prices q) := by
  unfold qE; rw [if_neg (by simp [h]), if_neg (by simp [h2]), if_neg (by simp [h3]), if_neg (by simp [h4]), if_pos h5]
theorem q_last (h : checkE p = 0) (h2 : TP.allE q.ticks = 0) (h3 : timeB q = true) (h4 : within q.least 1 1048576 = true) (h5 : firstE p (prices q) = 0) (h6 : lastB q = true) : qE p q = 17 := by
  unfold qE; rw [if_neg (by simp [h]), if_neg (by simp [h2]), if_neg (by simp [h3]), if_neg (by simp [h4]), if_neg (by simp [h5]), if_pos h6]
theorem q_ok (h : checkE p = 0) (h2 : TP.allE q.ticks = 0) (h3 : timeB q = true) (h4 : within q.least 1 1048576 = true) (h5 : firstE p (prices q) = 0) (h6 : lastB q = false) : qE p q = 0 := by
  unfold qE; rw [if_neg (by simp [h]), if_neg (by simp [h2]), if_neg (by simp [h3]), if_neg (by simp [h4]), if_neg (by simp [h5]), if_neg (by simp [h6])]
end
/-- what a quote that was checked is -/
structure Ok (p : Prod) (q : Quote) : Prop where
  prod : checkE p = 0
  tape : TP.allE q.ticks = 0
  time : (0 ≤ q.from_ ∧ q.from_ ≤ 86399) ∧ (q.from_ ≤ q.to_ ∧ q.to_ ≤ 86399)
  least : 1 ≤ q.least ∧ q.least ≤ 1048576
  ticks : ∀ t ∈ q.ticks, priceE p t.price = 0
  bid : q.bid ≠ 0 → priceE p q.bid = 0
  ask : q.ask ≠ 0 → priceE p q.ask = 0
  before : priceE p q.before = 0
  cross : q.bid ≠ 0 → q.ask ≠ 0 → q.bid ≤ q.ask
  move : -16777216 ≤ q.move ∧ q.move ≤ 16777216
theorem ok_of {p : Prod} {q : Quote} (h : qE p q = 0) : Ok p q := by
  by_cases h1 : checkE p = 0
  · by_cases h2 : TP.allE q.ticks = 0
    · cases h3 : timeB q
      · rw [q_time h1 h2 h3] at h; cases h
      · cases h4 : within q.least 1 1048576
        · rw [q_least h1 h2 h3 h4] at h; cases h
        · by_cases h5 : firstE p (prices q) = 0
          · cases h6 : lastB q
            · unfold timeB at h3
              rw [Bool.and_eq_true, within_true, within_true] at h3
              unfold lastB at h6
              rw [Bool.or_eq_false_iff] at h6
              rw [first_all] at h5
              refine ⟨h1, h2, h3, within_true.1 h4, fun t ht => h5 _ ?_, fun hb => h5 _ ?_, fun ha => h5 _ ?_, h5 _ ?_, fun hb ha => ?_, ?_⟩
              · unfold prices; simp only [List.mem_append, List.mem_map]; exact .inl (.inl ⟨t, ht, rfl⟩)
              · unfold prices side; rw [if_neg hb]; simp
              · unfold prices side; rw [if_neg ha]; simp
              · unfold prices; simp
              · have := h6.1
                rw [both_true.2 ⟨hb, ha⟩, Bool.true_and, decide_eq_false_iff_not] at this
                omega
              · have := h6.2
                rw [Bool.not_eq_false'] at this
                exact isP_true.1 this
            · rw [q_last h1 h2 h3 h4 h5 h6] at h; cases h
          · rw [q_first h1 h2 h3 h4 h5] at h; exact absurd h h5
    · rw [q_tape h1 h2] at h; exact absurd h h2
  · rw [q_prod h1] at h; exact absurd h h1
/-- the rules -/
def winQ (q : Quote) : List TP.Tick := TP.win q.ticks q.from_ q.to_
def up (x : Int) (q : Quote) : Int := if q.bid = 0 then x else if x < q.bid then q.bid else x
def held (x : Int) (q : Quote) : Int := if q.ask = 0 then up x q else if q.ask < up x q then q.ask else up x q
def moved (q : Quote) : Int := CM.clamp (q.before + q.move) (-16777216) 16777216
def ruleN (q : Quote) : Int := if q.least ≤ TP.volN (winQ q) then 1 else if both q = true then 2 else if 0 < q.ticks.length then 3 else 4
def rawN (p : Prod) (q : Quote) : Int :=
  if q.least ≤ TP.volN (winQ q) then TP.vwN (winQ q) p.tick 5 else if both q = true then midN q.bid q.ask p.tick else if 0 < q.ticks.length then held (TP.lastT q.ticks).price q else QM.roundN p (moved q) 5
def priceN (p : Prod) (q : Quote) : Int := if qE p q = 0 then CM.clamp (rawN p q) p.low p.high else 0
def ruleR (p : Prod) (q : Quote) : Int := if qE p q = 0 then ruleN q else 0
theorem win_ok {p : Prod} {q : Quote} (h : Ok p q) : TP.allE (winQ q) = 0 := TP.of_good (TP.good_win (TP.good h.tape) _ _)
theorem win_vw {p : Prod} {q : Quote} (h : Ok p q) (hr : q.least ≤ TP.volN (winQ q)) : TP.vwE (winQ q) p.tick 5 = 0 ∧ 0 < (winQ q).length := by
  have ht := (QM.check_parts h.prod).2.2.2.1
  have hw := win_ok h
  have h0 : 0 < (winQ q).length := by
    rcases Nat.eq_zero_or_pos (winQ q).length with g | g
    · have e : winQ q = [] := List.eq_nil_of_length_eq_zero g
      unfold TP.volN at hr
      rw [if_pos hw, e] at hr
      simp [TP.vol] at hr
      have := h.least.1
      omega
    · exact g
  exact ⟨(TP.vw_ok hw (within_true.2 ht) (within_true.2 (by omega)) h0).1, h0⟩
theorem price_in {p : Prod} {x : Int} (h : priceE p x = 0) : -16777216 ≤ x ∧ x ≤ 16777216 := by
  obtain ⟨hc, ⟨h1, h2⟩, _⟩ := QM.price_zero.1 h
  obtain ⟨_, _, _, _, ⟨l1, l2, l3⟩, _, _⟩ := QM.check_parts hc
  omega
theorem mid_fine {p : Prod} {q : Quote} (h : Ok p q) (hb : both q = true) : midE q.bid q.ask p.tick = 0 := by
  obtain ⟨b0, a0⟩ := both_true.1 hb
  have ht := (QM.check_parts h.prod).2.2.2.1
  exact (mid_ok (within_true.2 ht) (midB_false.2 ⟨price_in (h.bid b0), price_in (h.ask a0), h.cross b0 a0⟩)).1
theorem moved_in (q : Quote) : -16777216 ≤ moved q ∧ moved q ≤ 16777216 := by
  unfold moved CM.clamp
  split
  · omega
  · split <;> omega
theorem round_fine {p : Prod} {q : Quote} (h : Ok p q) : QM.roundE p (moved q) 5 = 0 := QM.round_zero.2 ⟨h.prod, moved_in q, by omega⟩
theorem held_price {p : Prod} {q : Quote} (h : Ok p q) {x : Int} (hx : priceE p x = 0) : priceE p (held x q) = 0 := by
  have hu : priceE p (up x q) = 0 := by
    unfold up
    split
    · exact hx
    · rename_i hb
      split
      · exact h.bid hb
      · exact hx
  unfold held
  split
  · exact hu
  · rename_i ha
    split
    · exact h.ask ha
    · exact hu
theorem last_mem {l : List TP.Tick} (h : 0 < l.length) : TP.lastT l ∈ l := by
  unfold TP.lastT
  rw [if_neg (by omega), TP.tAt_get (by omega)]
  exact List.getElem_mem _
theorem raw_mult {p : Prod} {q : Quote} (h : Ok p q) : (rawN p q).tmod p.tick = 0 := by
  unfold rawN
  split
  · rename_i hr
    unfold TP.vwN
    rw [if_pos (win_vw h hr).1]
    exact Int.mul_tmod_left _ _
  · split
    · rename_i hb
      unfold midN
      rw [if_pos (mid_fine h hb)]
      exact Int.mul_tmod_left _ _
    · split
      · rename_i h0
        exact (QM.price_zero.1 (held_price h (h.ticks _ (last_mem h0)))).2.2
      · exact (QM.price_zero.1 (QM.round_ok (round_fine h))).2.2
/-- what is told may be a price -/
theorem holds {p : Prod} {q : Quote} (h : qE p q = 0) : priceE p (priceN p q) = 0 ∧ (1 ≤ ruleR p q ∧ ruleR p q ≤ 4) := by
  have ho := ok_of h
  obtain ⟨_, _, _, _, ⟨_, hl, _⟩, m1, m2⟩ := QM.check_parts ho.prod
  constructor
  · unfold priceN
    rw [if_pos h, QM.price_zero]
    obtain ⟨a, b, c⟩ := QM.clamp_mult (n := rawN p q) hl (raw_mult ho) m1 m2
    exact ⟨ho.prod, ⟨b, c⟩, a⟩
  · unfold ruleR ruleN
    rw [if_pos h]
    split
    · omega
    · split
      · omega
      · split <;> omega
theorem clamp_in {n a b : Int} (h1 : a ≤ n) (h2 : n ≤ b) : CM.clamp n a b = n := by
  unfold CM.clamp
  rw [if_neg (by omega), if_neg (by omega)]
/-- rule 2: between both -/
theorem rule2 {p : Prod} {q : Quote} (h : qE p q = 0) (hr : ruleR p q = 2) : q.bid ≤ priceN p q ∧ priceN p q ≤ q.ask := by
  have ho := ok_of h
  unfold ruleR ruleN at hr
  rw [if_pos h] at hr
  split at hr
  · cases hr
  · rename_i h1
    split at hr
    · rename_i h2
      have e : rawN p q = midN q.bid q.ask p.tick := by unfold rawN; rw [if_neg h1, if_pos h2]
      obtain ⟨b0, a0⟩ := both_true.1 h2
      have pb := QM.price_zero.1 (ho.bid b0)
      have pa := QM.price_zero.1 (ho.ask a0)
      have hm := mid_between (mid_fine ho h2) pb.2.2 pa.2.2
      unfold priceN
      rw [if_pos h, e, clamp_in (by omega) (by omega)]
      exact hm
    · split at hr <;> cases hr
/-- the lowest and the highest price of the window, from the product's highest and lowest one on -/
def loU (p : Prod) (q : Quote) : Nat → Int
  | 0 => p.high
  | k + 1 => if within (TP.tAt q.ticks k).time q.from_ q.to_ = true then (if (TP.tAt q.ticks k).price < loU p q k then (TP.tAt q.ticks k).price else loU p q k) else loU p q k
def hiU (p : Prod) (q : Quote) : Nat → Int
  | 0 => p.low
  | k + 1 => if within (TP.tAt q.ticks k).time q.from_ q.to_ = true then (if hiU p q k < (TP.tAt q.ticks k).price then (TP.tAt q.ticks k).price else hiU p q k) else hiU p q k
theorem lo_price {p : Prod} {q : Quote} (h : Ok p q) : ∀ k, k ≤ q.ticks.length → priceE p (loU p q k) = 0 ∧ priceE p (hiU p q k) = 0 := by
  obtain ⟨_, _, _, _, ⟨_, hl, _⟩, m1, m2⟩ := QM.check_parts h.prod
  intro k
  induction k with
  | zero => intro _; exact ⟨QM.price_zero.2 ⟨h.prod, ⟨hl, Int.le_refl _⟩, m2⟩, QM.price_zero.2 ⟨h.prod, ⟨Int.le_refl _, hl⟩, m1⟩⟩
  | succ k ih =>
    intro hk
    obtain ⟨i1, i2⟩ := ih (by omega)
    have ht : priceE p (TP.tAt q.ticks k).price = 0 := h.ticks _ (by rw [TP.tAt_get (by omega)]; exact List.getElem_mem _)
    rw [loU, hiU]
    split
    · constructor
      · split <;> assumption
      · split <;> assumption
    · exact ⟨i1, i2⟩
theorem lo_le {p : Prod} {q : Quote} : ∀ k j, j < k → within (TP.tAt q.ticks j).time q.from_ q.to_ = true → loU p q k ≤ (TP.tAt q.ticks j).price ∧ (TP.tAt q.ticks j).price ≤ hiU p q k := by
  intro k
  induction k with
  | zero => intro j hj; omega
  | succ k ih =>
    intro j hj hw
    rw [loU, hiU]
    rcases Nat.lt_or_ge j k with g | g
    · have := ih j g hw
      split
      · constructor
        · split <;> omega
        · split <;> omega
      · exact this
    · obtain rfl : j = k := by omega
      rw [if_pos hw, if_pos hw]
      constructor
      · split <;> omega
      · split <;> omega
/-- rule 1: among the window's -/
theorem rule1 {p : Prod} {q : Quote} (h : qE p q = 0) (hr : ruleR p q = 1) : loU p q q.ticks.length ≤ priceN p q ∧ priceN p q ≤ hiU p q q.ticks.length := by
  have ho := ok_of h
  unfold ruleR ruleN at hr
  rw [if_pos h] at hr
  split at hr
  · rename_i h1
    obtain ⟨hv, h0⟩ := win_vw ho h1
    have ht := (QM.check_parts ho.prod).2.2.2.1
    obtain ⟨pl, ph⟩ := lo_price ho q.ticks.length (Nat.le_refl _)
    obtain ⟨_, l1, l2⟩ := QM.price_zero.1 pl
    obtain ⟨_, h1', h2'⟩ := QM.price_zero.1 ph
    obtain ⟨x, hx⟩ := mult_of l2
    obtain ⟨y, hy⟩ := mult_of h2'
    have bl := price_in pl
    have bh := price_in ph
    have hw := TP.vw_within (l := winQ q) (step := p.tick) (mode := 5) (x := x) (y := y) (TP.good_win (TP.good ho.tape) _ _) ht (by omega) (by omega) h0 (fun k hk => by
      have hm := List.getElem_mem hk
      rw [← TP.tAt_get hk] at hm
      obtain ⟨m1, m2⟩ := TP.win_mem.1 hm
      obtain ⟨j, hj, ej⟩ := List.getElem_of_mem m1
      rw [← TP.tAt_get hj] at ej
      rw [← ej, ← hx, ← hy]
      rw [← ej] at m2
      exact lo_le _ j hj (within_true.2 m2)) (by rw [← hx]; exact bl) (by rw [← hy]; exact bh)
    rw [← hx, ← hy] at hw
    have e : rawN p q = TP.vwK (winQ q) p.tick 5 * p.tick := by unfold rawN; rw [if_pos h1]; unfold TP.vwN; rw [if_pos hv]
    unfold priceN
    rw [if_pos h, e, clamp_in (by omega) (by omega)]
    exact hw
  · split at hr
    · cases hr
    · split at hr <;> cases hr
end MK

/- Contracts of layer 18: within, isPrice. -/
namespace Go.Proofs.Ytagmknahmkniaaa
open Go.RowKit Go.Recs
set_option linter.unusedVariables false
set_option linter.unusedSimpArgs false
theorem within18_any (n a b : Int) (w : World) :
    Calls Try.prog 84 #[.int .i64 n, .int .i64 a, .int .i64 b] w fun e w' => e = .returned (.bool (QM.within n a b)) ∧ w = w' := by
  by_cases h1 : a ≤ n
  · by_cases h2 : n ≤ b
    · have e : QM.within n a b = true := QM.within_true.2 ⟨h1, h2⟩
      rw [e]; clear e
      go_enter Try.func84, Try.ntmps84
      go_wp2
      go_ret
      exact ⟨rfl, rfl⟩
    · have e : QM.within n a b = false := QM.within_false.2 (.inr (by omega))
      rw [e]; clear e
      go_enter Try.func84, Try.ntmps84
      go_wp2
      go_ret
      exact ⟨rfl, rfl⟩
  · have e : QM.within n a b = false := QM.within_false.2 (.inl (by omega))
    rw [e]; clear e
    go_enter Try.func84, Try.ntmps84
    go_wp2
    go_ret
    exact ⟨rfl, rfl⟩
theorem isprice18_any (n : Int) (w : World) : Calls Try.prog 74 #[.int .i64 n] w fun e w' => e = .returned (.bool (MK.isP n)) ∧ w = w' := by
  have C := Lib.hid (fun ww => within18_any n (-16777216) 16777216 ww)
  have e : QM.within n (-16777216) 16777216 = MK.isP n := rfl
  rw [e] at C
  clear e
  generalize MK.isP n = x at *
  go_enter Try.func74, Try.ntmps74
  go_wp2_with fail
  refine (C.out _).mono ?_
  rintro e w1 ⟨rfl, rfl⟩
  go_wp2_with fail
  go_ret
  exact ⟨rfl, rfl⟩
end Go.Proofs.Ytagmknahmkniaaa

/- Layer 18's mathematics: marks, what may be, a series' mark. -/
namespace MR
set_option linter.unusedVariables false
structure Mk where
  ser : EM.Ser
  price : Int
def zero : Mk := ⟨EM.zero, 0⟩
def mAt (l : List Mk) (k : Nat) : Mk := l.getD k zero
theorem mAt_get {l : List Mk} {k : Nat} (h : k < l.length) : mAt l k = l[k] := by simp [mAt, List.getD, h]
def eAt (l : List Mk) (k : Nat) : Int := if 0 < k ∧ ¬ EM.cmp (mAt l (k - 1)).ser (mAt l k).ser < 0 then 19 else if MK.isP (mAt l k).price = true then 0 else 17
def checkE (l : List Mk) : Int := if 128 < l.length then 8 else PO.firstE ((List.range l.length).map (eAt l))
theorem check_long {l : List Mk} (h : 128 < l.length) : checkE l = 8 := by unfold checkE; rw [if_pos h]
theorem check_ok {l : List Mk} (hl : ¬ 128 < l.length) (h : ∀ j, j < l.length → eAt l j = 0) : checkE l = 0 := by
  unfold checkE
  rw [if_neg hl]
  refine PO.first_all fun e he => ?_
  obtain ⟨j, hj, rfl⟩ := List.mem_map.1 he
  exact h j (List.mem_range.1 hj)
theorem check_at {l : List Mk} (hl : ¬ 128 < l.length) {k : Nat} (hk : k < l.length) (hj : ∀ j, j < k → eAt l j = 0) (h : eAt l k ≠ 0) : checkE l = eAt l k := by
  unfold checkE
  rw [if_neg hl, PO.first_at (k := k) (by simpa using hk) (fun j hj' => by simpa using hj j hj') (by simpa using h)]
  simp
theorem check_inv {l : List Mk} (h : checkE l = 0) : l.length ≤ 128 ∧ ∀ j, j < l.length → eAt l j = 0 := by
  unfold checkE at h
  split at h
  · cases h
  · refine ⟨by omega, fun j hj => PO.first_inv h _ (List.mem_map.2 ⟨j, List.mem_range.2 hj, rfl⟩)⟩
def asc (l : List Mk) : Prop := l.Pairwise (fun a b => EM.lt a.ser b.ser)
theorem eAt_zero {l : List Mk} {k : Nat} (h : eAt l k = 0) : (0 < k → EM.lt (mAt l (k - 1)).ser (mAt l k).ser) ∧ MK.isP (mAt l k).price = true := by
  unfold eAt at h
  split at h
  · cases h
  · rename_i h1
    split at h
    · rename_i h2
      refine ⟨fun hk => ?_, h2⟩
      have h3 : EM.cmp (mAt l (k - 1)).ser (mAt l k).ser < 0 := Classical.byContradiction fun g => h1 ⟨hk, g⟩
      rcases EM.cmp_cases (mAt l (k - 1)).ser (mAt l k).ser with ⟨_, g⟩ | ⟨g, _⟩ | ⟨g, _⟩
      · exact g
      · omega
      · omega
    · cases h
theorem asc_of {l : List Mk} (h : ∀ j, j < l.length → eAt l j = 0) : asc l := by
  refine List.pairwise_iff_getElem.2 fun i j hi hj hij => ?_
  have key : ∀ d i, i + d + 1 < l.length → EM.lt (mAt l i).ser (mAt l (i + d + 1)).ser := by
    intro d
    induction d with
    | zero => intro i hd; exact (eAt_zero (h (i + 0 + 1) hd)).1 (by omega)
    | succ d ih =>
      intro i hd
      have h1 := ih i (by omega)
      have h2 := (eAt_zero (h (i + (d + 1) + 1) hd)).1 (by omega)
      exact EM.lt_trans h1 h2
  have := key (j - i - 1) i (by omega)
  rw [show i + (j - i - 1) + 1 = j by omega, mAt_get hi, mAt_get hj] at this
  exact this
theorem check_good {l : List Mk} (h : checkE l = 0) : l.length ≤ 128 ∧ asc l ∧ ∀ p ∈ l, MK.isP p.price = true := by
  obtain ⟨h1, h2⟩ := check_inv h
  refine ⟨h1, asc_of h2, fun p hp => ?_⟩
  obtain ⟨j, hj, rfl⟩ := List.getElem_of_mem hp
  have := (eAt_zero (h2 j hj)).2
  rwa [mAt_get hj] at this
theorem lt_cmp {a b : EM.Ser} (h : EM.lt a b) : EM.cmp a b < 0 := by
  rcases EM.cmp_cases a b with ⟨g, _⟩ | ⟨_, g⟩ | ⟨_, g⟩
  · omega
  · rw [g] at h; exact absurd h (EM.lt_irrefl _)
  · exact absurd (EM.lt_trans h g) (EM.lt_irrefl _)
theorem check_of {l : List Mk} (hl : l.length ≤ 128) (ha : asc l) (hp : ∀ p ∈ l, MK.isP p.price = true) : checkE l = 0 := by
  refine check_ok (by omega) fun j hj => ?_
  unfold eAt
  rw [if_neg, if_pos]
  · rw [mAt_get hj]; exact hp _ (List.getElem_mem hj)
  · rintro ⟨h0, h1⟩
    rw [mAt_get hj, mAt_get (show j - 1 < l.length by omega)] at h1
    exact h1 (lt_cmp (List.pairwise_iff_getElem.1 ha (j - 1) j (by omega) hj (by omega)))
/-- a mark as a position, with one lot sold -/
def toP (x : Mk) : PO.Pos := ⟨x.ser, x.price, 1⟩
theorem asc_map {l : List Mk} : PO.ascP (l.map toP) ↔ asc l := by unfold PO.ascP asc; rw [List.pairwise_map]; rfl
def fidx (l : List Mk) (s : EM.Ser) : Option Nat := l.findIdx? fun q => NM.seqB q.ser s
def findN (l : List Mk) (s : EM.Ser) : Int := match fidx l s with
  | some k => (mAt l k).price
  | none => 0
def findB (l : List Mk) (s : EM.Ser) : Bool := (fidx l s).isSome
theorem fidx_some {l : List Mk} {s : EM.Ser} {k : Nat} (hk : k < l.length) (hj : ∀ j, j < k → NM.seqB (mAt l j).ser s = false) (h : NM.seqB (mAt l k).ser s = true) : fidx l s = some k := by
  unfold fidx
  rw [List.findIdx?_eq_some_iff_getElem]
  refine ⟨hk, by rw [← mAt_get hk]; exact h, fun j hj' => ?_⟩
  have := hj j hj'
  rw [mAt_get (by omega)] at this
  simp [this]
theorem fidx_none {l : List Mk} {s : EM.Ser} (h : ∀ j, j < l.length → NM.seqB (mAt l j).ser s = false) : fidx l s = none := by
  unfold fidx
  rw [List.findIdx?_eq_none_iff]
  intro x hx
  obtain ⟨j, hj, rfl⟩ := List.getElem_of_mem hx
  have := h j hj
  rwa [mAt_get hj] at this
end MR

/- Marks in memory, over any program. -/
namespace Go.Recs
open Go.RowKit
set_option linter.unusedVariables false
def markV (x : MR.Mk) : List Value := [.string x.ser.prod, .int .i64 x.ser.kind, .int .i64 x.ser.expiry, .int .i64 x.ser.strike, .int .i64 x.price]
def markQ (x : MR.Mk) : Prop := serQ x.ser ∧ i64 x.price
def markL : List Leaf := [.str, .int .i64, .int .i64, .int .i64, .int .i64]
theorem mark_row (r : List Value) (h : okAll markL r) : ∃ x : MR.Mk, r = markV x ∧ markQ x := by
  obtain ⟨c0, r0, rfl, ⟨s0, rfl, h0⟩, g0⟩ := okAll_cons h
  obtain ⟨c1, r1, rfl, ⟨n1, rfl, h1⟩, g1⟩ := okAll_cons g0
  obtain ⟨c2, r2, rfl, ⟨n2, rfl, h2⟩, g2⟩ := okAll_cons g1
  obtain ⟨c3, r3, rfl, ⟨n3, rfl, h3⟩, g3⟩ := okAll_cons g2
  obtain ⟨c4, r4, rfl, ⟨n4, rfl, h4⟩, g4⟩ := okAll_cons g3
  rw [okAll_nil g4]
  exact ⟨⟨⟨s0, n1, n2, n3⟩, n4⟩, rfl, ⟨h0, bounds_i64 h1, bounds_i64 h2, bounds_i64 h3⟩, bounds_i64 h4⟩
abbrev Marks := TR markV markQ 5
theorem marks_get {w : World} {A : Option Addr} {l : List MR.Mk} (h : Marks w A l) {k : Nat} (hk : k < l.length) :
    ∃ b off, ∃ x : MR.Mk, A = some ⟨b, off, none⟩ ∧ b < w.heap.size ∧ Hid (MR.mAt l k = x) ∧ markQ x ∧ w.cell? ⟨b, off + k * 5, none⟩ = some (.string x.ser.prod) ∧ w.cell? ⟨b, off + k * 5 + 1, none⟩ = some (.int .i64 x.ser.kind) ∧
      w.cell? ⟨b, off + k * 5 + 2, none⟩ = some (.int .i64 x.ser.expiry) ∧ w.cell? ⟨b, off + k * 5 + 3, none⟩ = some (.int .i64 x.ser.strike) ∧ w.cell? ⟨b, off + k * 5 + 4, none⟩ = some (.int .i64 x.price) := by
  obtain ⟨b, off, rfl, hb, hq, hc⟩ := h.at_ hk
  exact ⟨b, off, l[k], rfl, hb, Lib.hid (MR.mAt_get hk), hq, hc 0 (by omega), hc 1 (by omega), hc 2 (by omega), hc 3 (by omega), hc 4 (by omega)⟩
theorem markV_one (x : MR.Mk) : ∀ u ∈ markV x, u.oneCell' = true := by
  intro u hu
  simp only [markV, List.mem_cons, List.not_mem_nil, or_false] at hu
  rcases hu with rfl | rfl | rfl | rfl | rfl <;> rfl
end Go.Recs
