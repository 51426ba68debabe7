/- Put together: TapeMath, CurveMath, CurveMath2, CurveMath3. -/
import Derived.Test.YtagmknahmkniaacBun2
/- Layer 17's mathematics: tapes. -/
namespace TP
set_option linter.unusedVariables false
structure Tick where
  time : Int
  qty : Int
  price : Int
def zero : Tick := ⟨0, 0, 0⟩
def tAt (l : List Tick) (k : Nat) : Tick := l.getD k zero
theorem tAt_get {l : List Tick} {k : Nat} (h : k < l.length) : tAt l k = l[k] := by simp [tAt, List.getD, h]
def prev (l : List Tick) (k : Nat) : Int := if k = 0 then 0 else (tAt l (k - 1)).time
theorem prev_zero (l : List Tick) : prev l 0 = 0 := rfl
theorem prev_succ (l : List Tick) (k : Nat) : prev l (k + 1) = (tAt l k).time := by unfold prev; simp
def oneT (a : Int) (t : Tick) : Int :=
  if QM.within t.time a 86399 = false then 2 else if QM.within t.qty 1 1048576 = false then 18 else if QM.within t.price (-16777216) 16777216 = false then 17 else 0
def oneE (l : List Tick) (k : Nat) : Int := oneT (prev l k) (tAt l k)
def uptoE (l : List Tick) : Nat → Int
  | 0 => 0
  | k + 1 => if uptoE l k = 0 then oneE l k else uptoE l k
def allE (l : List Tick) : Int := if 1024 < l.length then 8 else uptoE l l.length
theorem upto_stay {l : List Tick} {k : Nat} (h : uptoE l k ≠ 0) : ∀ m, uptoE l (k + m) = uptoE l k := by
  intro m
  induction m with
  | zero => rfl
  | succ m ih => rw [← Nat.add_assoc, uptoE, ih, if_neg h]
theorem all_stop {l : List Tick} {k : Nat} (hl : ¬ 1024 < l.length) (hk : k < l.length) (h : uptoE l k = 0) (h2 : oneE l k ≠ 0) : allE l = oneE l k := by
  have e : uptoE l (k + 1) = oneE l k := by rw [uptoE, if_pos h]
  unfold allE
  rw [if_neg hl]
  have := @upto_stay l (k + 1) (by rw [e]; exact h2) (l.length - (k + 1))
  rw [show k + 1 + (l.length - (k + 1)) = l.length by omega] at this
  rw [this, e]
theorem upto_step {l : List Tick} {k : Nat} (h : uptoE l k = 0) (h2 : oneE l k = 0) : uptoE l (k + 1) = 0 := by rw [uptoE, if_pos h]; exact h2
theorem upto_back {l : List Tick} {n : Nat} (h : uptoE l n = 0) : ∀ k, k < n → oneE l k = 0 := by
  induction n with
  | zero => intro k hk; omega
  | succ n ih =>
    intro k hk
    rw [uptoE] at h
    by_cases hn : uptoE l n = 0
    · rw [if_pos hn] at h
      rcases Nat.lt_or_ge k n with g | g
      · exact ih hn k g
      · obtain rfl : k = n := by omega
        exact h
    · rw [if_neg hn] at h; exact absurd h hn
theorem oneT_zero {a : Int} {t : Tick} : oneT a t = 0 ↔ (a ≤ t.time ∧ t.time ≤ 86399) ∧ (1 ≤ t.qty ∧ t.qty ≤ 1048576) ∧ (-16777216 ≤ t.price ∧ t.price ≤ 16777216) := by
  rw [← QM.within_true, ← QM.within_true, ← QM.within_true]
  unfold oneT
  cases QM.within t.time a 86399 <;> cases QM.within t.qty 1 1048576 <;> cases QM.within t.price (-16777216) 16777216 <;> simp
theorem one_time {a : Int} {t : Tick} (h : ¬ (a ≤ t.time ∧ t.time ≤ 86399)) : oneT a t = 2 := by
  unfold oneT; rw [if_pos (by rw [QM.within_false]; omega)]
theorem one_qty {a : Int} {t : Tick} (h : a ≤ t.time ∧ t.time ≤ 86399) (h2 : ¬ (1 ≤ t.qty ∧ t.qty ≤ 1048576)) : oneT a t = 18 := by
  unfold oneT; rw [QM.within_true.2 h, if_neg (by simp), if_pos (by rw [QM.within_false]; omega)]
theorem one_price {a : Int} {t : Tick} (h : a ≤ t.time ∧ t.time ≤ 86399) (h2 : 1 ≤ t.qty ∧ t.qty ≤ 1048576) (h3 : ¬ (-16777216 ≤ t.price ∧ t.price ≤ 16777216)) : oneT a t = 17 := by
  unfold oneT; rw [QM.within_true.2 h, if_neg (by simp), QM.within_true.2 h2, if_neg (by simp), if_pos (by rw [QM.within_false]; omega)]
/-- what ticks that were checked are -/
structure Good (l : List Tick) : Prop where
  len : l.length ≤ 1024
  each : ∀ k, k < l.length → (0 ≤ (tAt l k).time ∧ (tAt l k).time ≤ 86399) ∧ (1 ≤ (tAt l k).qty ∧ (tAt l k).qty ≤ 1048576) ∧ (-16777216 ≤ (tAt l k).price ∧ (tAt l k).price ≤ 16777216)
  rise : ∀ k, k + 1 < l.length → (tAt l k).time ≤ (tAt l (k + 1)).time
theorem good {l : List Tick} (h : allE l = 0) : Good l := by
  unfold allE at h
  split at h
  · cases h
  · rename_i hl
    have hb := fun k hk => oneT_zero.1 (upto_back h k hk)
    have h0 : ∀ k, k < l.length → 0 ≤ (tAt l k).time := by
      intro k
      induction k with
      | zero => intro hk; have := (hb 0 hk).1.1; rw [prev_zero] at this; exact this
      | succ k ih => intro hk; have := (hb (k + 1) hk).1.1; rw [prev_succ] at this; have := ih (by omega); omega
    refine ⟨by omega, fun k hk => ⟨⟨h0 k hk, (hb k hk).1.2⟩, (hb k hk).2⟩, fun k hk => ?_⟩
    have := (hb (k + 1) hk).1.1
    rw [prev_succ] at this
    exact this
theorem upto_of {l : List Tick} (hg : Good l) : ∀ k, k ≤ l.length → uptoE l k = 0 := by
  intro k
  induction k with
  | zero => intro _; rfl
  | succ k ih =>
    intro hk
    refine upto_step (ih (by omega)) (oneT_zero.2 ?_)
    obtain ⟨a, b, c⟩ := hg.each k (by omega)
    refine ⟨⟨?_, a.2⟩, b, c⟩
    cases k with
    | zero => exact a.1
    | succ k => rw [prev_succ]; exact hg.rise k (by omega)
theorem of_good {l : List Tick} (hg : Good l) : allE l = 0 := by
  unfold allE; rw [if_neg (by have := hg.len; omega)]; exact upto_of hg _ (Nat.le_refl _)
theorem prev_ge {l : List Tick} {k : Nat} (hk : k ≤ l.length) (h : uptoE l k = 0) : 0 ≤ prev l k := by
  induction k with
  | zero => exact Int.le_refl _
  | succ k ih =>
    have h1 := upto_back h k (by omega)
    have h2 : uptoE l k = 0 := by
      rw [uptoE] at h
      by_cases hn : uptoE l k = 0
      · exact hn
      · rw [if_neg hn] at h; exact absurd h hn
    have := (oneT_zero.1 h1).1.1
    have := ih (by omega) h2
    rw [prev_succ]; omega

/-- sums -/
def vol : List Tick → Int
  | [] => 0
  | t :: l => t.qty + vol l
def val : List Tick → Int
  | [] => 0
  | t :: l => t.price * t.qty + val l
theorem vol_append (a b : List Tick) : vol (a ++ b) = vol a + vol b := by
  induction a with
  | nil => simp [vol]
  | cons t a ih => rw [List.cons_append, vol, ih, vol]; omega
theorem val_append (a b : List Tick) : val (a ++ b) = val a + val b := by
  induction a with
  | nil => simp [val]
  | cons t a ih => rw [List.cons_append, val, ih, val]; omega
theorem take_succ {l : List Tick} {k : Nat} (h : k < l.length) : l.take (k + 1) = l.take k ++ [tAt l k] := by
  rw [tAt_get h, List.take_add_one, List.getElem?_eq_getElem h]; rfl
def volU (l : List Tick) (k : Nat) : Int := vol (l.take k)
def valU (l : List Tick) (k : Nat) : Int := val (l.take k)
theorem volU_zero (l : List Tick) : volU l 0 = 0 := rfl
theorem valU_zero (l : List Tick) : valU l 0 = 0 := rfl
theorem volU_all (l : List Tick) : volU l l.length = vol l := by unfold volU; rw [List.take_length]
theorem valU_all (l : List Tick) : valU l l.length = val l := by unfold valU; rw [List.take_length]
theorem volU_succ {l : List Tick} {k : Nat} (h : k < l.length) : volU l (k + 1) = volU l k + (tAt l k).qty := by
  unfold volU; rw [take_succ h, vol_append]; simp [vol]
theorem valU_succ {l : List Tick} {k : Nat} (h : k < l.length) : valU l (k + 1) = valU l k + (tAt l k).price * (tAt l k).qty := by
  unfold valU; rw [take_succ h, val_append]; simp [val]
theorem mul_bound {p q : Int} (hp : -16777216 ≤ p ∧ p ≤ 16777216) (hq : 1 ≤ q ∧ q ≤ 1048576) : -17592186044416 ≤ p * q ∧ p * q ≤ 17592186044416 := by
  have h1 : p * q ≤ 16777216 * q := Int.mul_le_mul_of_nonneg_right hp.2 (by omega)
  have h2 : (-16777216) * q ≤ p * q := Int.mul_le_mul_of_nonneg_right hp.1 (by omega)
  omega
theorem vol_bounds {l : List Tick} (hg : Good l) : ∀ k, k ≤ l.length → (k : Int) ≤ volU l k ∧ volU l k ≤ 1048576 * (k : Int) := by
  intro k
  induction k with
  | zero => intro _; rw [volU_zero]; omega
  | succ k ih =>
    intro hk
    have := ih (by omega)
    have := (hg.each k (by omega)).2.1
    rw [volU_succ (by omega)]; omega
theorem val_bounds {l : List Tick} (hg : Good l) : ∀ k, k ≤ l.length → -(17592186044416 * (k : Int)) ≤ valU l k ∧ valU l k ≤ 17592186044416 * (k : Int) := by
  intro k
  induction k with
  | zero => intro _; rw [valU_zero]; omega
  | succ k ih =>
    intro hk
    have := ih (by omega)
    have h1 := hg.each k (by omega)
    have := mul_bound h1.2.2 h1.2.1
    rw [valU_succ (by omega)]; omega
/-- the value lies between the lots at the least and at the greatest price -/
theorem val_between {l : List Tick} (hg : Good l) {x y : Int} (h : ∀ k, k < l.length → x ≤ (tAt l k).price ∧ (tAt l k).price ≤ y) : ∀ k, k ≤ l.length → x * volU l k ≤ valU l k ∧ valU l k ≤ y * volU l k := by
  intro k
  induction k with
  | zero => intro _; rw [valU_zero, volU_zero]; omega
  | succ k ih =>
    intro hk
    obtain ⟨i1, i2⟩ := ih (by omega)
    have h1 := (hg.each k (by omega)).2.1
    obtain ⟨h2, h3⟩ := h k (by omega)
    rw [valU_succ (by omega), volU_succ (by omega), Int.mul_add, Int.mul_add]
    have := Int.mul_le_mul_of_nonneg_right h2 (show 0 ≤ (tAt l k).qty by omega)
    have := Int.mul_le_mul_of_nonneg_right h3 (show 0 ≤ (tAt l k).qty by omega)
    omega

/-- the lowest and the highest price of the first k -/
def lowU (l : List Tick) : Nat → Int
  | 0 => (tAt l 0).price
  | k + 1 => if (tAt l k).price < lowU l k then (tAt l k).price else lowU l k
def highU (l : List Tick) : Nat → Int
  | 0 => (tAt l 0).price
  | k + 1 => if highU l k < (tAt l k).price then (tAt l k).price else highU l k
theorem lowU_one (l : List Tick) : lowU l 1 = (tAt l 0).price := by unfold lowU lowU; rw [if_neg (by omega)]
theorem highU_one (l : List Tick) : highU l 1 = (tAt l 0).price := by unfold highU highU; rw [if_neg (by omega)]
theorem lowU_le {l : List Tick} : ∀ k j, j < k → lowU l k ≤ (tAt l j).price := by
  intro k
  induction k with
  | zero => intro j hj; omega
  | succ k ih =>
    intro j hj
    rw [lowU]
    rcases Nat.lt_or_ge j k with g | g
    · have := ih j g; split <;> omega
    · obtain rfl : j = k := by omega
      split <;> omega
theorem le_highU {l : List Tick} : ∀ k j, j < k → (tAt l j).price ≤ highU l k := by
  intro k
  induction k with
  | zero => intro j hj; omega
  | succ k ih =>
    intro j hj
    rw [highU]
    rcases Nat.lt_or_ge j k with g | g
    · have := ih j g; split <;> omega
    · obtain rfl : j = k := by omega
      split <;> omega
theorem lowU_mem {l : List Tick} (h0 : 0 < l.length) : ∀ k, k ≤ l.length → ∃ j, j < l.length ∧ lowU l k = (tAt l j).price := by
  intro k
  induction k with
  | zero => intro _; exact ⟨0, h0, rfl⟩
  | succ k ih =>
    intro hk
    rw [lowU]
    split
    · exact ⟨k, by omega, rfl⟩
    · exact ih (by omega)
theorem highU_mem {l : List Tick} (h0 : 0 < l.length) : ∀ k, k ≤ l.length → ∃ j, j < l.length ∧ highU l k = (tAt l j).price := by
  intro k
  induction k with
  | zero => intro _; exact ⟨0, h0, rfl⟩
  | succ k ih =>
    intro hk
    rw [highU]
    split
    · exact ⟨k, by omega, rfl⟩
    · exact ih (by omega)
def lowN (l : List Tick) : Int := if l.length = 0 then 0 else lowU l l.length
def highN (l : List Tick) : Int := if l.length = 0 then 0 else highU l l.length

/-- a quotient by MulDiv lies between what its dividend lies between -/
theorem md_small {a c mode : Int} (ha : -1152921504606846975 ≤ a ∧ a ≤ 1152921504606846975) (hc : 1 ≤ c ∧ c ≤ 1152921504606846976) (h1 : 1 ≤ mode) (h5 : mode ≤ 5) : CM.mdE a 1 c mode = 0 := by
  have hA : CM.mdA a 1 c mode = true := by
    have f1 : CM.fits a = true := CM.fits_true.2 (by omega)
    have f2 : CM.fits c = true := CM.fits_true.2 (by omega)
    simp [CM.mdA, f1, f2, CM.fits_one, h1, h5]
  have hq : CM.mdQ a 1 c ≤ (CM.size a).toNat := by
    unfold CM.mdQ
    rw [show (CM.size 1).toNat = 1 from rfl, Nat.mul_one]
    exact Nat.div_le_self _ _
  have hs : CM.size a ≤ 1152921504606846975 := by unfold CM.size; split <;> omega
  have h0 := CM.size_nonneg a
  have hg : CM.mdG a 1 c mode ≤ 1152921504606846976 := by unfold CM.mdG; split <;> omega
  simp [CM.mdE, hA, show c ≠ 0 by omega, hg]
theorem md_between {a c x y mode : Int} (hc : 1 ≤ c ∧ c ≤ 1152921504606846976) (h1 : 1 ≤ mode) (h5 : mode ≤ 5) (hx : x * c ≤ a) (hy : a ≤ y * c)
    (bx : -1152921504606846975 ≤ x * c) (by_ : y * c ≤ 1152921504606846975) : CM.mdE a 1 c mode = 0 ∧ x ≤ CM.mdN a 1 c mode ∧ CM.mdN a 1 c mode ≤ y := by
  have e := md_small (a := a) (c := c) (mode := mode) (by omega) hc h1 h5
  have fc : CM.fits c = true := CM.fits_true.2 (by omega)
  have key : ∀ z : Int, -1152921504606846975 ≤ z * c → z * c ≤ 1152921504606846975 → CM.mdN (z * c) 1 c mode = z ∧ CM.mdE (z * c) 1 c mode = 0 := by
    intro z z1 z2
    have : -1152921504606846976 ≤ z ∧ z ≤ 1152921504606846976 := by
      constructor
      · apply Classical.byContradiction
        intro h
        have : z * c ≤ z * 1 := Int.mul_le_mul_of_nonpos_left (by omega) hc.1
        omega
      · apply Classical.byContradiction
        intro h
        have : z * 1 ≤ z * c := Int.mul_le_mul_of_nonneg_left hc.1 (by omega)
        omega
    exact QM.md_exact hc.1 (CM.fits_true.2 (by omega)) (CM.fits_true.2 this) fc h1 h5
  obtain ⟨k1, k2⟩ := key x bx (by omega)
  obtain ⟨k3, k4⟩ := key y (by omega) by_
  refine ⟨e, ?_, ?_⟩
  · have := CM.md_rises (b := 1) (by omega) (by omega) hx k2 e; rw [k1] at this; exact this
  · have := CM.md_rises (b := 1) (by omega) (by omega) hy e k4; rw [k3] at this; exact this
/-- the average -/
def vwE (l : List Tick) (step mode : Int) : Int :=
  if allE l ≠ 0 then allE l else if QM.within step 1 16777216 = false then 16 else if QM.within mode 1 5 = false then 2 else if l.length = 0 then 11 else 0
def vwK (l : List Tick) (step mode : Int) : Int := CM.mdN (val l) 1 (vol l * step) mode
def vwN (l : List Tick) (step mode : Int) : Int := if vwE l step mode = 0 then vwK l step mode * step else 0
theorem vw_zero {l : List Tick} {step mode : Int} (h : vwE l step mode = 0) : Good l ∧ (1 ≤ step ∧ step ≤ 16777216) ∧ (1 ≤ mode ∧ mode ≤ 5) ∧ 0 < l.length := by
  unfold vwE at h
  by_cases h1 : allE l = 0
  · rw [if_neg (by simp [h1])] at h
    cases h2 : QM.within step 1 16777216
    · rw [h2] at h; simp at h
    · cases h3 : QM.within mode 1 5
      · rw [h2, h3] at h; simp at h
      · rw [h2, h3] at h
        refine ⟨good h1, QM.within_true.1 h2, QM.within_true.1 h3, ?_⟩
        by_cases h4 : l.length = 0
        · rw [if_pos h4] at h; simp at h
        · omega
  · rw [if_pos h1] at h; exact absurd h h1
/-- what is multiplied and divided in an average, and what comes out -/
theorem vw_bounds {l : List Tick} {step mode : Int} (hg : Good l) (hs : 1 ≤ step ∧ step ≤ 16777216) (h1 : 1 ≤ mode) (h5 : mode ≤ 5) (h0 : 0 < l.length) :
    (1 ≤ vol l ∧ vol l ≤ 1073741824) ∧ (1 ≤ vol l * step ∧ vol l * step ≤ 18014398509481984) ∧ (-18014398509481984 ≤ val l ∧ val l ≤ 18014398509481984) ∧
      CM.mdE (val l) 1 (vol l * step) mode = 0 ∧ (-33554432 ≤ vwK l step mode ∧ vwK l step mode ≤ 33554432) ∧ (-33554432 ≤ vwK l step mode * step ∧ vwK l step mode * step ≤ 33554432) := by
  have hl := hg.len
  have hv := vol_bounds hg l.length (Nat.le_refl _)
  have ha := val_bounds hg l.length (Nat.le_refl _)
  have hb := val_between hg (x := -16777216) (y := 16777216) (fun k hk => (hg.each k hk).2.2) l.length (Nat.le_refl _)
  rw [volU_all] at hv hb
  rw [valU_all] at ha hb
  have hv1 : 1 ≤ vol l ∧ vol l ≤ 1073741824 := by omega
  have hm1 : vol l * 1 ≤ vol l * step := Int.mul_le_mul_of_nonneg_left hs.1 (by omega)
  have hm2 : vol l * step ≤ vol l * 16777216 := Int.mul_le_mul_of_nonneg_left hs.2 (by omega)
  have hc : 1 ≤ vol l * step ∧ vol l * step ≤ 18014398509481984 := by omega
  have d1 := Int.mul_ediv_add_emod 16777216 step
  have d2 := Int.emod_nonneg 16777216 (show step ≠ 0 by omega)
  have d3 := Int.emod_lt_of_pos 16777216 (show 0 < step by omega)
  obtain ⟨y, hy⟩ : ∃ y : Int, y = 16777216 / step + 1 := ⟨_, rfl⟩
  have ys : y * step = step * (16777216 / step) + step := by rw [hy, Int.add_mul, Int.one_mul, Int.mul_comm]
  have y1 : 16777216 ≤ y * step ∧ y * step ≤ 33554432 := by omega
  have y0 : 1 ≤ y := by have := Int.ediv_nonneg (show (0 : Int) ≤ 16777216 by omega) (show 0 ≤ step by omega); omega
  have e : y * (vol l * step) = y * step * vol l := by rw [Int.mul_assoc, Int.mul_comm step]
  have e2 : -y * (vol l * step) = -(y * step * vol l) := by rw [Int.neg_mul, e]
  have b1 : 16777216 * vol l ≤ y * step * vol l := Int.mul_le_mul_of_nonneg_right y1.1 (by omega)
  have b2 : y * step * vol l ≤ 33554432 * vol l := Int.mul_le_mul_of_nonneg_right y1.2 (by omega)
  have hK := md_between (a := val l) (c := vol l * step) (x := -y) (y := y) (mode := mode) ⟨hc.1, by omega⟩ h1 h5 (by rw [e2]; omega) (by rw [e]; omega) (by rw [e2]; omega) (by rw [e]; omega)
  have hk : -y ≤ vwK l step mode ∧ vwK l step mode ≤ y := hK.2
  have p1 : vwK l step mode * step ≤ y * step := Int.mul_le_mul_of_nonneg_right hk.2 (by omega)
  have p2 : (-y) * step ≤ vwK l step mode * step := Int.mul_le_mul_of_nonneg_right hk.1 (by omega)
  rw [Int.neg_mul] at p2
  have y2 : y ≤ 33554432 := by
    have : y * 1 ≤ y * step := Int.mul_le_mul_of_nonneg_left hs.1 (by omega)
    omega
  exact ⟨hv1, hc, by omega, hK.1, by omega, by omega⟩
/-- .. it lies within what all prices lie within, where these are multiples -/
theorem vw_within {l : List Tick} {step mode x y : Int} (hg : Good l) (hs : 1 ≤ step ∧ step ≤ 16777216) (h1 : 1 ≤ mode) (h5 : mode ≤ 5) (h0 : 0 < l.length)
    (h : ∀ k, k < l.length → x * step ≤ (tAt l k).price ∧ (tAt l k).price ≤ y * step) (hx : -16777216 ≤ x * step ∧ x * step ≤ 16777216) (hy : -16777216 ≤ y * step ∧ y * step ≤ 16777216) :
    x * step ≤ vwK l step mode * step ∧ vwK l step mode * step ≤ y * step := by
  obtain ⟨hv, hc, ha, _, _, _⟩ := vw_bounds (mode := mode) hg hs h1 h5 h0
  have hb := val_between hg h l.length (Nat.le_refl _)
  rw [volU_all, valU_all] at hb
  have ex : x * step * vol l = x * (vol l * step) := by rw [Int.mul_assoc, Int.mul_comm step]
  have ey : y * step * vol l = y * (vol l * step) := by rw [Int.mul_assoc, Int.mul_comm step]
  have bx : -16777216 * vol l ≤ x * step * vol l := Int.mul_le_mul_of_nonneg_right hx.1 (by omega)
  have bx2 : x * step * vol l ≤ 16777216 * vol l := Int.mul_le_mul_of_nonneg_right hx.2 (by omega)
  have by1 : -16777216 * vol l ≤ y * step * vol l := Int.mul_le_mul_of_nonneg_right hy.1 (by omega)
  have by2 : y * step * vol l ≤ 16777216 * vol l := Int.mul_le_mul_of_nonneg_right hy.2 (by omega)
  rw [ex] at hb bx bx2
  rw [ey] at hb by1 by2
  obtain ⟨_, m1, m2⟩ := md_between (mode := mode) ⟨hc.1, by omega⟩ h1 h5 hb.1 hb.2 (by omega) (by omega)
  exact ⟨Int.mul_le_mul_of_nonneg_right m1 (by omega), Int.mul_le_mul_of_nonneg_right m2 (by omega)⟩
def volN (l : List Tick) : Int := if allE l = 0 then vol l else 0
theorem vw_check {l : List Tick} {step mode : Int} (h : allE l ≠ 0) : vwE l step mode = allE l ∧ vwN l step mode = 0 := by
  have e : vwE l step mode = allE l := by unfold vwE; rw [if_pos h]
  exact ⟨e, by unfold vwN; rw [e, if_neg h]⟩
theorem vw_step {l : List Tick} {step mode : Int} (h : allE l = 0) (h2 : QM.within step 1 16777216 = false) : vwE l step mode = 16 ∧ vwN l step mode = 0 := by
  have e : vwE l step mode = 16 := by unfold vwE; rw [if_neg (by simp [h]), h2]; rfl
  exact ⟨e, by unfold vwN; rw [e]; rfl⟩
theorem vw_mode {l : List Tick} {step mode : Int} (h : allE l = 0) (h2 : QM.within step 1 16777216 = true) (h3 : QM.within mode 1 5 = false) : vwE l step mode = 2 ∧ vwN l step mode = 0 := by
  have e : vwE l step mode = 2 := by unfold vwE; rw [if_neg (by simp [h]), h2, h3, if_neg (by simp), if_pos rfl]
  exact ⟨e, by unfold vwN; rw [e]; rfl⟩
theorem vw_none {l : List Tick} {step mode : Int} (h : allE l = 0) (h2 : QM.within step 1 16777216 = true) (h3 : QM.within mode 1 5 = true) (h4 : l.length = 0) : vwE l step mode = 11 ∧ vwN l step mode = 0 := by
  have e : vwE l step mode = 11 := by unfold vwE; rw [if_neg (by simp [h]), h2, h3, if_neg (by simp), if_neg (by simp), if_pos h4]
  exact ⟨e, by unfold vwN; rw [e]; rfl⟩
theorem vw_ok {l : List Tick} {step mode : Int} (h : allE l = 0) (h2 : QM.within step 1 16777216 = true) (h3 : QM.within mode 1 5 = true) (h4 : 0 < l.length) : vwE l step mode = 0 ∧ vwN l step mode = vwK l step mode * step := by
  have e : vwE l step mode = 0 := by unfold vwE; rw [if_neg (by simp [h]), h2, h3, if_neg (by simp), if_neg (by simp), if_neg (by omega)]
  exact ⟨e, by unfold vwN; rw [e]; rfl⟩
/-- a window -/
def win (l : List Tick) (a b : Int) : List Tick := l.filter fun t => QM.within t.time a b
def winU (l : List Tick) (a b : Int) (k : Nat) : List Tick := win (l.take k) a b
theorem winU_zero (l : List Tick) (a b : Int) : winU l a b 0 = [] := rfl
theorem winU_all (l : List Tick) (a b : Int) : winU l a b l.length = win l a b := by unfold winU; rw [List.take_length]
theorem winU_in {l : List Tick} {a b : Int} {k : Nat} (h : k < l.length) (hi : QM.within (tAt l k).time a b = true) : winU l a b (k + 1) = winU l a b k ++ [tAt l k] := by
  unfold winU win; rw [take_succ h, List.filter_append]; simp [hi]
theorem winU_out {l : List Tick} {a b : Int} {k : Nat} (h : k < l.length) (hi : QM.within (tAt l k).time a b = false) : winU l a b (k + 1) = winU l a b k := by
  unfold winU win; rw [take_succ h, List.filter_append]; simp [hi]
theorem winU_len (l : List Tick) (a b : Int) (k : Nat) (hk : k ≤ l.length) : (winU l a b k).length ≤ k := by
  unfold winU win
  have := List.length_filter_le (fun t => QM.within t.time a b) (l.take k)
  rw [List.length_take] at this
  omega
theorem win_mem {l : List Tick} {a b : Int} {t : Tick} : t ∈ win l a b ↔ t ∈ l ∧ a ≤ t.time ∧ t.time ≤ b := by unfold win; rw [List.mem_filter, QM.within_true]
/-- what is last -/
def lastT (l : List Tick) : Tick := if l.length = 0 then zero else tAt l (l.length - 1)
end TP

/- Layer 19's mathematics: points of a curve, its prices, filled and moved. -/
namespace UM
set_option linter.unusedVariables false
structure Pt where
  exp : Int
  price : Int
  known : Bool
deriving DecidableEq
def zero : Pt := ⟨0, 0, false⟩
def pAt (l : List Pt) (k : Nat) : Pt := l.getD k zero
theorem pAt_get {l : List Pt} {k : Nat} (h : k < l.length) : pAt l k = l[k] := by simp [pAt, List.getD, h]
def isP (n : Int) : Bool := QM.within n (-16777216) 16777216
theorem isP_true {n : Int} : isP n = true ↔ -16777216 ≤ n ∧ n ≤ 16777216 := QM.within_true
/-- the error of the points of a list, behind an earliest day -/
def restE : List Pt → Int → Bool → Int
  | [], _, k => if k = true then 0 else 11
  | p :: t, e, k => if QM.within p.exp e 73048 = false then 15 else if p.known = true ∧ isP p.price = false then 17 else restE t (p.exp + 1) (k || p.known)
def checkE (l : List Pt) : Int := if QM.within l.length 1 128 = false then 8 else restE l 0 false
theorem rest_end (l : List Pt) (e : Int) (k : Bool) : restE (l.drop l.length) e k = if k = true then 0 else 11 := by rw [List.drop_length]; rfl
theorem rest_at {l : List Pt} {j : Nat} (h : j < l.length) (e : Int) (k : Bool) :
    restE (l.drop j) e k = if QM.within (pAt l j).exp e 73048 = false then 15 else if (pAt l j).known = true ∧ isP (pAt l j).price = false then 17 else restE (l.drop (j + 1)) ((pAt l j).exp + 1) (k || (pAt l j).known) := by
  rw [List.drop_eq_getElem_cons h, pAt_get h]; rfl

/-- the quotient, rounded half to even -/
def K (v c : Int) : Int := CM.mdN v 1 c 5
theorem near_of {v c q r : Int} (h : v = c * q + r) (r0 : 0 ≤ r) (r1 : r < c) (c1 : 1 ≤ c) (c2 : c ≤ 4398046511104) (v1 : -4398046511104 ≤ v) (v2 : v ≤ 4398046511104) :
    CM.mdE v 1 c 5 = 0 ∧ K v c = q + if c < 2 * r ∨ (2 * r = c ∧ q % 2 = 1) then 1 else 0 := by
  have e := TP.md_small (a := v) (c := c) (mode := 5) (by omega) ⟨c1, by omega⟩ (by omega) (by omega)
  refine ⟨e, ?_⟩
  have hA : CM.mdA v 1 c 5 = true := by
    unfold CM.mdA
    rw [CM.fits_true.2 (by omega), CM.fits_true.2 (by omega), CM.fits_true.2 (by omega)]; rfl
  have hc0 : c ≠ 0 := by omega
  have hG : CM.mdG v 1 c 5 ≤ 1152921504606846976 := by
    unfold CM.mdE at e
    rw [if_pos hA, if_neg hc0] at e
    split at e
    · assumption
    · cases e
  have eN : K v c = if CM.neg v 1 c then -CM.mdG v 1 c 5 else CM.mdG v 1 c 5 := by
    unfold K CM.mdN
    rw [if_pos hA, if_neg hc0, if_pos hG]
  have sc : CM.size c = c := by unfold CM.size; rw [if_neg (by omega)]
  have s1 : CM.size 1 = 1 := rfl
  have key : ∀ a Q R : Int, 0 ≤ a → a = c * Q + R → 0 ≤ R → R < c → ((a.toNat * (1 : Int).toNat / c.toNat : Nat) : Int) = Q ∧ ((a.toNat * (1 : Int).toNat % c.toNat : Nat) : Int) = R := by
    intro a Q R a0 ha R0 R1
    have e1 : a.toNat * (1 : Int).toNat = a.toNat := by simp
    rw [e1, Int.natCast_ediv, Int.natCast_emod, Int.toNat_of_nonneg a0, Int.toNat_of_nonneg (by omega)]
    exact (Int.ediv_emod_unique (by omega)).2 ⟨by omega, R0, R1⟩
  by_cases hv : v < 0
  · have sv : CM.size v = -v := by unfold CM.size; rw [if_pos hv]
    have hn : CM.neg v 1 c = true := by unfold CM.neg; simp; omega
    rw [hn, if_pos rfl] at eN
    by_cases hr : r = 0
    · subst hr
      obtain ⟨k1, k2⟩ := key (-v) (-q) 0 (by omega) (by rw [Int.mul_neg]; omega) (by omega) (by omega)
      have e1 : (CM.mdQ v 1 c : Int) = -q := by unfold CM.mdQ; rw [sv, sc, s1]; exact k1
      have e2 : (CM.mdR v 1 c : Int) = 0 := by unfold CM.mdR; rw [sv, sc, s1]; exact k2
      rw [eN]; unfold CM.mdG; rw [e1, e2]
      have : CM.grow (-q) 0 (CM.size c) 5 (CM.neg v 1 c) = false := rfl
      rw [this, if_neg (by simp), if_neg (by omega)]; omega
    · obtain ⟨k1, k2⟩ := key (-v) (-q - 1) (c - r) (by omega) (by rw [Int.mul_sub, Int.mul_neg]; omega) (by omega) (by omega)
      have e1 : (CM.mdQ v 1 c : Int) = -q - 1 := by unfold CM.mdQ; rw [sv, sc, s1]; exact k1
      have e2 : (CM.mdR v 1 c : Int) = c - r := by unfold CM.mdR; rw [sv, sc, s1]; exact k2
      rw [eN]; unfold CM.mdG; rw [e1, e2, sc]
      have hgr : CM.grow (-q - 1) (c - r) c 5 (CM.neg v 1 c) = (decide (c < 2 * (c - r)) || (decide (2 * (c - r) = c) && decide ((-q - 1) % 2 = 1))) := by
        unfold CM.grow; rw [if_neg (by omega)]; simp
      rw [hgr]
      by_cases g1 : c < 2 * (c - r)
      · rw [if_pos (by simp [g1]), if_neg (by omega)]; omega
      · by_cases g2 : 2 * (c - r) = c
        · by_cases g3 : (-q - 1) % 2 = 1
          · rw [if_pos (by simp [g2, g3]), if_neg (by omega)]; omega
          · rw [if_neg (by simp [g2, g3]), if_pos (by omega)]; omega
        · rw [if_neg (by simp [g1, g2]), if_pos (by omega)]; omega
  · have sv : CM.size v = v := by unfold CM.size; rw [if_neg hv]
    have hn : CM.neg v 1 c = false := by unfold CM.neg; simp; omega
    rw [hn, if_neg (by simp)] at eN
    obtain ⟨k1, k2⟩ := key v q r (by omega) h r0 r1
    have e1 : (CM.mdQ v 1 c : Int) = q := by unfold CM.mdQ; rw [sv, sc, s1]; exact k1
    have e2 : (CM.mdR v 1 c : Int) = r := by unfold CM.mdR; rw [sv, sc, s1]; exact k2
    rw [eN]; unfold CM.mdG; rw [e1, e2, sc]
    by_cases hr : r = 0
    · subst hr
      have : CM.grow q 0 c 5 (CM.neg v 1 c) = false := rfl
      rw [this, if_neg (by simp), if_neg (by omega)]
    · have hgr : CM.grow q r c 5 (CM.neg v 1 c) = (decide (c < 2 * r) || (decide (2 * r = c) && decide (q % 2 = 1))) := by
        unfold CM.grow; rw [if_neg hr]; simp
      rw [hgr]
      congr 1
      simp
theorem near_ex {v c : Int} (c1 : 1 ≤ c) : v = c * (v / c) + v % c ∧ 0 ≤ v % c ∧ v % c < c := ⟨(Int.mul_ediv_add_emod v c).symm, Int.emod_nonneg _ (by omega), Int.emod_lt_of_pos _ (by omega)⟩
/-- how far the rounded multiple is away -/
theorem near_half {v c : Int} (c1 : 1 ≤ c) (c2 : c ≤ 4398046511104) (v1 : -4398046511104 ≤ v) (v2 : v ≤ 4398046511104) :
    CM.mdE v 1 c 5 = 0 ∧ 2 * (K v c * c) ≤ 2 * v + c ∧ 2 * v - c ≤ 2 * (K v c * c) := by
  obtain ⟨h, r0, r1⟩ := near_ex (v := v) c1
  obtain ⟨e, k⟩ := near_of h r0 r1 c1 c2 v1 v2
  generalize v / c = q at *
  generalize v % c = r at *
  refine ⟨e, ?_⟩
  rw [k, Int.add_mul, Int.mul_comm q c]
  split <;> (rename_i g; simp only [Int.one_mul, Int.zero_mul]; omega)
/-- moved by an even number -/
theorem near_moved {v c m : Int} (c1 : 1 ≤ c) (c2 : c ≤ 4398046511104) (v1 : -4398046511104 ≤ v) (v2 : v ≤ 4398046511104)
    (w1 : -4398046511104 ≤ v + 2 * m * c) (w2 : v + 2 * m * c ≤ 4398046511104) : K (v + 2 * m * c) c = K v c + 2 * m := by
  obtain ⟨h, r0, r1⟩ := near_ex (v := v) c1
  have k1 := (near_of h r0 r1 c1 c2 v1 v2).2
  have h2 : v + 2 * m * c = c * (v / c + 2 * m) + v % c := by rw [Int.mul_add, Int.mul_comm c (2 * m)]; omega
  have k2 := (near_of h2 r0 r1 c1 c2 w1 w2).2
  rw [k1, k2]
  have e2 : (v / c + 2 * m) % 2 = v / c % 2 := by omega
  rw [e2]; omega
end UM

/- Layer 19's mathematics: which points may be, the known ones about a day, the price of a day. -/
namespace UM
set_option linter.unusedVariables false
/-- points in order, behind an earliest day -/
def Ord : List Pt → Int → Prop
  | [], _ => True
  | p :: t, e => e ≤ p.exp ∧ p.exp ≤ 73048 ∧ (p.known = true → isP p.price = true) ∧ Ord t (p.exp + 1)
theorem rest_ord {l : List Pt} : ∀ {e : Int} {k : Bool}, restE l e k = 0 ↔ Ord l e ∧ (k = true ∨ ∃ p ∈ l, p.known = true) := by
  induction l with
  | nil =>
    intro e k
    cases k <;> simp [restE, Ord]
  | cons p t ih =>
    intro e k
    rw [restE]
    cases h1 : QM.within p.exp e 73048
    · rw [if_pos rfl]
      constructor
      · intro h; cases h
      · rintro ⟨h, -⟩
        have := QM.within_false.1 h1
        obtain ⟨a, b, -⟩ := h
        omega
    · have g1 := QM.within_true.1 h1
      rw [if_neg (by simp)]
      by_cases h2 : p.known = true ∧ isP p.price = false
      · rw [if_pos h2]
        constructor
        · intro h; cases h
        · rintro ⟨h, -⟩
          obtain ⟨a, b, c, -⟩ := h
          rw [c h2.1] at h2; cases h2.2
      · rw [if_neg h2, ih]
        have h3 : p.known = true → isP p.price = true := by
          intro h
          cases h4 : isP p.price
          · exact absurd ⟨h, h4⟩ h2
          · rfl
        constructor
        · rintro ⟨h, h4⟩
          refine ⟨⟨g1.1, g1.2, h3, h⟩, ?_⟩
          rcases h4 with h4 | ⟨q, h4, h5⟩
          · cases hk : k
            · rw [hk] at h4; exact .inr ⟨p, List.mem_cons_self, by simpa using h4⟩
            · exact .inl rfl
          · exact .inr ⟨q, List.mem_cons_of_mem _ h4, h5⟩
        · rintro ⟨⟨_, _, _, h⟩, h4⟩
          refine ⟨h, ?_⟩
          rcases h4 with rfl | ⟨q, h4, h5⟩
          · exact .inl (by simp)
          · rcases List.mem_cons.1 h4 with rfl | h4
            · exact .inl (by simp [h5])
            · exact .inr ⟨q, h4, h5⟩
structure Good (l : List Pt) : Prop where
  len : 1 ≤ l.length ∧ l.length ≤ 128
  ord : Ord l 0
  some : ∃ p ∈ l, p.known = true
theorem check_good {l : List Pt} : checkE l = 0 ↔ Good l := by
  unfold checkE
  cases h : QM.within l.length 1 128
  · rw [if_pos rfl]
    constructor
    · intro h; cases h
    · intro g
      have := g.len
      have := QM.within_false.1 h
      omega
  · have h' := QM.within_true.1 h
    rw [if_neg (by simp), rest_ord]
    constructor
    · rintro ⟨a, b⟩
      exact ⟨by omega, a, by simpa using b⟩
    · intro g
      exact ⟨g.ord, .inr g.some⟩
theorem Ord.mem {l : List Pt} : ∀ {e : Int}, Ord l e → ∀ p ∈ l, e ≤ p.exp ∧ p.exp ≤ 73048 ∧ (p.known = true → -16777216 ≤ p.price ∧ p.price ≤ 16777216) := by
  induction l with
  | nil => intro e _ p hp; cases hp
  | cons q t ih =>
    rintro e ⟨a, b, c, d⟩ p hp
    rcases List.mem_cons.1 hp with rfl | hp
    · exact ⟨a, b, fun h => isP_true.1 (c h)⟩
    · have := ih d p hp
      exact ⟨by omega, this.2⟩
/-- of two points of the list with one day there is one -/
theorem Ord.one {l : List Pt} : ∀ {e : Int}, Ord l e → ∀ p ∈ l, ∀ q ∈ l, p.exp = q.exp → p = q := by
  induction l with
  | nil => intro e _ p hp; cases hp
  | cons x t ih =>
    rintro e ⟨a, b, c, d⟩ p hp q hq h
    rcases List.mem_cons.1 hp with rfl | hp'
    · rcases List.mem_cons.1 hq with rfl | hq'
      · rfl
      · have := d.mem q hq'; omega
    · rcases List.mem_cons.1 hq with rfl | hq'
      · have := d.mem p hp'; omega
      · exact ih d p hp' q hq' h
/-- the last known point up to a day, the first known point from it on -/
def lowK (l : List Pt) (day : Int) : Pt := l.foldl (fun a p => if p.known && decide (p.exp ≤ day) then p else a) zero
def highK (l : List Pt) (day : Int) : Pt := l.foldr (fun p b => if p.known && decide (day ≤ p.exp) then p else b) zero
theorem low_nil (day : Int) : lowK [] day = zero := rfl
theorem low_step {l : List Pt} {k : Nat} (h : k < l.length) (day : Int) : lowK (l.take (k + 1)) day = if (pAt l k).known && decide ((pAt l k).exp ≤ day) then pAt l k else lowK (l.take k) day := by
  unfold lowK; rw [List.take_succ_eq_append_getElem h, List.foldl_append, pAt_get h]; rfl
theorem high_step {l : List Pt} {k : Nat} (h : k < l.length) (day : Int) : highK (l.drop k) day = if (pAt l k).known && decide (day ≤ (pAt l k).exp) then pAt l k else highK (l.drop (k + 1)) day := by
  unfold highK; rw [List.drop_eq_getElem_cons h, List.foldr_cons, pAt_get h]
theorem high_end (l : List Pt) (day : Int) : highK (l.drop l.length) day = zero := by rw [List.drop_length]; rfl
theorem low_cases (l : List Pt) (day : Int) : (lowK l day = zero ∧ ∀ p ∈ l, p.known = true → day < p.exp) ∨ (lowK l day ∈ l ∧ (lowK l day).known = true ∧ (lowK l day).exp ≤ day) := by
  suffices h : ∀ k, k ≤ l.length → (lowK (l.take k) day = zero ∧ ∀ p ∈ l.take k, p.known = true → day < p.exp) ∨ (lowK (l.take k) day ∈ l ∧ (lowK (l.take k) day).known = true ∧ (lowK (l.take k) day).exp ≤ day) by
    have := h l.length (Nat.le_refl _)
    rwa [List.take_length] at this
  intro k
  induction k with
  | zero => intro _; exact .inl ⟨rfl, by simp⟩
  | succ k ih =>
    intro hk
    rw [low_step (by omega)]
    split
    · rename_i g
      simp only [Bool.and_eq_true, decide_eq_true_eq] at g
      exact .inr ⟨by rw [pAt_get (by omega)]; exact List.getElem_mem _, g.1, g.2⟩
    · rename_i g
      rcases ih (by omega) with ⟨h1, h2⟩ | h
      · refine .inl ⟨h1, ?_⟩
        intro p hp hpk
        rw [List.take_succ_eq_append_getElem (by omega)] at hp
        rcases List.mem_append.1 hp with hp | hp
        · exact h2 p hp hpk
        · rw [List.mem_singleton, ← pAt_get (by omega)] at hp
          subst hp
          simp only [Bool.and_eq_true, decide_eq_true_eq, hpk, true_and] at g
          omega
      · exact .inr h
theorem high_cases (l : List Pt) (day : Int) : (highK l day = zero ∧ ∀ p ∈ l, p.known = true → p.exp < day) ∨ (highK l day ∈ l ∧ (highK l day).known = true ∧ day ≤ (highK l day).exp) := by
  induction l with
  | nil => exact .inl ⟨rfl, by simp⟩
  | cons p t ih =>
    have e : highK (p :: t) day = if p.known && decide (day ≤ p.exp) then p else highK t day := rfl
    rw [e]
    split
    · rename_i g
      simp only [Bool.and_eq_true, decide_eq_true_eq] at g
      exact .inr ⟨List.mem_cons_self, g.1, g.2⟩
    · rename_i g
      rcases ih with ⟨h1, h2⟩ | ⟨h1, h2⟩
      · refine .inl ⟨h1, ?_⟩
        intro q hq hqk
        rcases List.mem_cons.1 hq with rfl | hq
        · simp only [Bool.and_eq_true, decide_eq_true_eq, hqk, true_and] at g
          omega
        · exact h2 q hq hqk
      · exact .inr ⟨List.mem_cons_of_mem _ h1, h2⟩
/-- a known point up to the day is not behind the last of them -/
theorem low_last {l : List Pt} : ∀ {e : Int}, Ord l e → ∀ (z : Pt) (day : Int), ∀ p ∈ l, p.known = true → p.exp ≤ day → p.exp ≤ (l.foldl (fun a p => if p.known && decide (p.exp ≤ day) then p else a) z).exp := by
  induction l with
  | nil => intro e _ z day p hp; cases hp
  | cons q t ih =>
    rintro e ⟨a, b, c, d⟩ z day p hp hk hle
    rw [List.foldl_cons]
    rcases List.mem_cons.1 hp with rfl | hp
    · rw [if_pos (by simp [hk, hle])]
      clear ih hp
      suffices h : ∀ (t : List Pt) (e : Int) (z : Pt), Ord t e → z.exp < e → z.exp ≤ (t.foldl (fun a p => if p.known && decide (p.exp ≤ day) then p else a) z).exp by exact h t _ _ d (by omega)
      intro t
      induction t with
      | nil => intro e z _ _; exact Int.le_refl _
      | cons q t ih =>
        rintro e z ⟨a, b, c, d⟩ hz
        rw [List.foldl_cons]
        split
        · have := ih (q.exp + 1) q d (by omega); omega
        · exact ih (q.exp + 1) z d (by omega)
    · exact ih d _ day p hp hk hle
theorem high_first {l : List Pt} : ∀ {e : Int}, Ord l e → ∀ (day : Int), ∀ p ∈ l, p.known = true → day ≤ p.exp → (highK l day).exp ≤ p.exp := by
  induction l with
  | nil => intro e _ day p hp; cases hp
  | cons q t ih =>
    rintro e ⟨a, b, c, d⟩ day p hp hk hle
    have ee : highK (q :: t) day = if q.known && decide (day ≤ q.exp) then q else highK t day := rfl
    rw [ee]
    rcases List.mem_cons.1 hp with rfl | hp
    · rw [if_pos (by simp [hk, hle])]; omega
    · split
      · have := d.mem p hp; omega
      · exact ih d day p hp hk hle
/-- the two points about a day -/
def arA (l : List Pt) (day : Int) : Pt := if (lowK l day).known = true then lowK l day else highK l day
def arB (l : List Pt) (day : Int) : Pt := if (lowK l day).known = true ∧ (highK l day).known = false then lowK l day else highK l day
def lineV (a b : Pt) (day : Int) : Int := a.price * (b.exp - a.exp) + (b.price - a.price) * (day - a.exp)
def tweenK (a b : Pt) (day tick : Int) : Int := K (lineV a b day) ((b.exp - a.exp) * tick)
def tweenN (a b : Pt) (day tick : Int) : Int := tweenK a b day tick * tick
def priceN (l : List Pt) (day tick : Int) : Int := if arA l day = arB l day then (arA l day).price else tweenN (arA l day) (arB l day) day tick
/-- two points between which a price may be looked for -/
structure Pair (a b : Pt) (day tick : Int) : Prop where
  da : 0 ≤ a.exp ∧ a.exp ≤ day
  db : day ≤ b.exp ∧ b.exp ≤ 73048
  lt : a.exp < b.exp
  pa : -16777216 ≤ a.price ∧ a.price ≤ 16777216
  pb : -16777216 ≤ b.price ∧ b.price ≤ 16777216
  tk : 1 ≤ tick ∧ tick ≤ 16777216
structure Lined (a b : Pt) (day tick : Int) : Prop where
  x : -1225542074368 ≤ a.price * (b.exp - a.exp) ∧ a.price * (b.exp - a.exp) ≤ 1225542074368
  y : -2451084148736 ≤ (b.price - a.price) * (day - a.exp) ∧ (b.price - a.price) * (day - a.exp) ≤ 2451084148736
  c : 1 ≤ (b.exp - a.exp) * tick ∧ (b.exp - a.exp) * tick ≤ 1225542074368
theorem mul_in {a b M N : Int} (ha : -M ≤ a ∧ a ≤ M) (hb : 0 ≤ b ∧ b ≤ N) (hM : 0 ≤ M) : -(M * N) ≤ a * b ∧ a * b ≤ M * N := by
  have h1 : a * b ≤ M * b := Int.mul_le_mul_of_nonneg_right ha.2 hb.1
  have h2 : -M * b ≤ a * b := Int.mul_le_mul_of_nonneg_right ha.1 hb.1
  have h3 : M * b ≤ M * N := Int.mul_le_mul_of_nonneg_left hb.2 hM
  rw [Int.neg_mul] at h2
  omega
theorem Pair.lined {a b : Pt} {day tick : Int} (h : Pair a b day tick) : Lined a b day tick := by
  obtain ⟨da, db, lt, pa, pb, tk⟩ := h
  have h1 := mul_in (a := a.price) (b := b.exp - a.exp) (M := 16777216) (N := 73048) pa ⟨by omega, by omega⟩ (by omega)
  have h2 := mul_in (a := b.price - a.price) (b := day - a.exp) (M := 33554432) (N := 73048) ⟨by omega, by omega⟩ ⟨by omega, by omega⟩ (by omega)
  have h3 := mul_in (a := b.exp - a.exp) (b := tick) (M := 73048) (N := 16777216) ⟨by omega, by omega⟩ ⟨by omega, by omega⟩ (by omega)
  have h4 : 1 * 1 ≤ (b.exp - a.exp) * tick := Int.mul_le_mul (by omega) tk.1 (by omega) (by omega)
  exact ⟨⟨by omega, by omega⟩, ⟨by omega, by omega⟩, ⟨by omega, by omega⟩⟩
/-- the line lies between the two prices -/
theorem Pair.line {a b : Pt} {day tick : Int} (h : Pair a b day tick) {lo hi : Int} (hl : lo ≤ a.price ∧ lo ≤ b.price) (hh : a.price ≤ hi ∧ b.price ≤ hi) :
    lo * (b.exp - a.exp) ≤ lineV a b day ∧ lineV a b day ≤ hi * (b.exp - a.exp) := by
  obtain ⟨da, db, lt, pa, pb, tk⟩ := h
  obtain ⟨s, hs⟩ : ∃ s, s = b.exp - day := ⟨_, rfl⟩
  obtain ⟨t, ht⟩ : ∃ t, t = day - a.exp := ⟨_, rfl⟩
  have e1 : b.exp - a.exp = s + t := by omega
  have e : lineV a b day = a.price * s + b.price * t := by
    unfold lineV
    rw [e1, ← ht, Int.mul_add, Int.sub_mul]; omega
  rw [e, e1, Int.mul_add, Int.mul_add]
  have a1 : lo * s ≤ a.price * s := Int.mul_le_mul_of_nonneg_right hl.1 (by omega)
  have a2 : lo * t ≤ b.price * t := Int.mul_le_mul_of_nonneg_right hl.2 (by omega)
  have a3 : a.price * s ≤ hi * s := Int.mul_le_mul_of_nonneg_right hh.1 (by omega)
  have a4 : b.price * t ≤ hi * t := Int.mul_le_mul_of_nonneg_right hh.2 (by omega)
  omega
theorem Pair.tween {a b : Pt} {day tick : Int} (h : Pair a b day tick) {lo hi : Int} (hl : lo ≤ a.price ∧ lo ≤ b.price) (hh : a.price ≤ hi ∧ b.price ≤ hi) :
    CM.mdE (lineV a b day) 1 ((b.exp - a.exp) * tick) 5 = 0 ∧ 2 * tweenN a b day tick ≤ 2 * hi + tick ∧ 2 * lo - tick ≤ 2 * tweenN a b day tick := by
  have L := h.lined
  obtain ⟨l1, l2⟩ := h.line hl hh
  have eV : lineV a b day = a.price * (b.exp - a.exp) + (b.price - a.price) * (day - a.exp) := rfl
  obtain ⟨x, y, c⟩ := L
  obtain ⟨e, n1, n2⟩ := near_half (v := lineV a b day) (c := (b.exp - a.exp) * tick) (by omega) (by omega) (by omega) (by omega)
  refine ⟨e, ?_⟩
  obtain ⟨da, db, lt, pa, pb, tk⟩ := h
  have ek : K (lineV a b day) ((b.exp - a.exp) * tick) * ((b.exp - a.exp) * tick) = tweenN a b day tick * (b.exp - a.exp) := by
    unfold tweenN tweenK
    rw [Int.mul_assoc, Int.mul_comm tick]
  rw [ek] at n1 n2
  generalize tweenN a b day tick = n at *
  generalize lineV a b day = v at *
  obtain ⟨s, hs⟩ : ∃ s, b.exp - a.exp = s := ⟨_, rfl⟩
  have s0 : 0 < s := by omega
  rw [hs] at n1 n2 l1 l2
  constructor
  · apply Int.le_of_mul_le_mul_right (a := s) _ s0
    rw [Int.add_mul, Int.mul_assoc, Int.mul_assoc, Int.mul_comm tick s]; omega
  · apply Int.le_of_mul_le_mul_right (a := s) _ s0
    rw [Int.sub_mul, Int.mul_assoc, Int.mul_assoc, Int.mul_comm tick s]; omega
theorem Pair.bounds {a b : Pt} {day tick : Int} (h : Pair a b day tick) : CM.mdE (lineV a b day) 1 ((b.exp - a.exp) * tick) 5 = 0 ∧
    (-33554432 ≤ tweenK a b day tick ∧ tweenK a b day tick ≤ 33554432) ∧ (-33554432 ≤ tweenN a b day tick ∧ tweenN a b day tick ≤ 33554432) := by
  obtain ⟨e, t1, t2⟩ := h.tween (lo := -16777216) (hi := 16777216) ⟨h.pa.1, h.pb.1⟩ ⟨h.pa.2, h.pb.2⟩
  have tk := h.tk
  have hn : -33554432 ≤ tweenN a b day tick ∧ tweenN a b day tick ≤ 33554432 := ⟨by omega, by omega⟩
  refine ⟨e, ?_, hn⟩
  unfold tweenN at hn
  generalize tweenK a b day tick = k at *
  rcases Int.le_total 0 k with h0 | h0
  · have : k * 1 ≤ k * tick := Int.mul_le_mul_of_nonneg_left tk.1 h0
    omega
  · have : k * tick ≤ k * 1 := Int.mul_le_mul_of_nonpos_left h0 tk.1
    omega
end UM

/- Layer 19's mathematics: prices of a day told apart, filled points, moved points. -/
namespace UM
set_option linter.unusedVariables false
theorem zero_known : zero.known = false := rfl
theorem ar_cases {l : List Pt} (g : Good l) {day tick : Int} (hd : 0 ≤ day ∧ day ≤ 73048) (ht : 1 ≤ tick ∧ tick ≤ 16777216) :
    (arA l day ∈ l ∧ (arA l day).known = true ∧ arB l day ∈ l ∧ (arB l day).known = true) ∧ (arA l day = arB l day ∨ (arA l day ≠ arB l day ∧ Pair (arA l day) (arB l day) day tick)) := by
  have A : arA l day = if (lowK l day).known = true then lowK l day else highK l day := rfl
  have B : arB l day = if (lowK l day).known = true ∧ (highK l day).known = false then lowK l day else highK l day := rfl
  rcases low_cases l day with ⟨h1, h2⟩ | ⟨h1, h2, h3⟩
  · rw [h1, zero_known] at A B
    rw [if_neg (by simp)] at A B
    rcases high_cases l day with ⟨h4, h5⟩ | ⟨h4, h5, h6⟩
    · obtain ⟨p, hp, hk⟩ := g.some
      have := h2 p hp hk
      have := h5 p hp hk
      omega
    · rw [A, B]
      exact ⟨⟨h4, h5, h4, h5⟩, .inl rfl⟩
  · rw [if_pos h2] at A
    rcases high_cases l day with ⟨h4, h5⟩ | ⟨h4, h5, h6⟩
    · rw [h4, if_pos ⟨h2, rfl⟩] at B
      rw [A, B]
      exact ⟨⟨h1, h2, h1, h2⟩, .inl rfl⟩
    · rw [if_neg (by simp [h5])] at B
      rw [A, B]
      refine ⟨⟨h1, h2, h4, h5⟩, ?_⟩
      by_cases e : lowK l day = highK l day
      · exact .inl e
      · refine .inr ⟨e, ?_⟩
        have m1 := g.ord.mem _ h1
        have m2 := g.ord.mem _ h4
        have hne : (lowK l day).exp ≠ (highK l day).exp := fun h => e (g.ord.one _ h1 _ h4 h)
        exact ⟨⟨by omega, h3⟩, ⟨h6, m2.2.1⟩, by omega, m1.2.2 h2, m2.2.2 h5, ht⟩
theorem price_same {l : List Pt} {day : Int} (tick : Int) (h : arA l day = arB l day) : priceN l day tick = (arA l day).price := by unfold priceN; rw [if_pos h]
theorem price_tween {l : List Pt} {day : Int} (tick : Int) (h : arA l day ≠ arB l day) : priceN l day tick = tweenN (arA l day) (arB l day) day tick := by unfold priceN; rw [if_neg h]
/-- of a known day it is that one's -/
theorem price_known {l : List Pt} (g : Good l) {day : Int} (tick : Int) {p : Pt} (hp : p ∈ l) (hk : p.known = true) (hd : p.exp = day) : priceN l day tick = p.price := by
  have e1 : lowK l day = p := by
    have h1 : p.exp ≤ (lowK l day).exp := low_last g.ord zero day p hp hk (by omega)
    rcases low_cases l day with ⟨_, h2⟩ | ⟨h2, h3, h4⟩
    · have := h2 p hp hk; omega
    · exact (g.ord.one p hp _ h2 (by omega)).symm
  have e2 : highK l day = p := by
    have h1 : (highK l day).exp ≤ p.exp := high_first g.ord day p hp hk (by omega)
    rcases high_cases l day with ⟨_, h2⟩ | ⟨h2, h3, h4⟩
    · have := h2 p hp hk; omega
    · exact (g.ord.one p hp _ h2 (by omega)).symm
  have A : arA l day = p := by unfold arA; rw [e1, if_pos hk]
  have B : arB l day = p := by unfold arB; rw [e1, e2, if_neg (by simp [hk])]
  rw [price_same tick (by rw [A, B]), A]
/-- between the least and the greatest known one, but for half a tick -/
theorem price_between {l : List Pt} (g : Good l) {day tick : Int} (hd : 0 ≤ day ∧ day ≤ 73048) (ht : 1 ≤ tick ∧ tick ≤ 16777216) {lo hi : Int}
    (h : ∀ p ∈ l, p.known = true → lo ≤ p.price ∧ p.price ≤ hi) : 2 * lo - tick ≤ 2 * priceN l day tick ∧ 2 * priceN l day tick ≤ 2 * hi + tick := by
  obtain ⟨⟨a1, a2, b1, b2⟩, e⟩ := ar_cases g hd ht
  have ha := h _ a1 a2
  have hb := h _ b1 b2
  rcases e with e | ⟨e, hp⟩
  · rw [price_same tick e]; omega
  · rw [price_tween tick e]
    obtain ⟨_, t1, t2⟩ := hp.tween (lo := lo) (hi := hi) ⟨ha.1, hb.1⟩ ⟨ha.2, hb.2⟩
    exact ⟨t2, t1⟩
theorem price_in {l : List Pt} (g : Good l) {day tick : Int} (hd : 0 ≤ day ∧ day ≤ 73048) (ht : 1 ≤ tick ∧ tick ≤ 16777216) : -33554432 ≤ priceN l day tick ∧ priceN l day tick ≤ 33554432 := by
  obtain ⟨h1, h2⟩ := price_between g hd ht (lo := -16777216) (hi := 16777216) fun p hp hk => (g.ord.mem p hp).2.2 hk
  omega
/-- At -/
def tickE (l : List Pt) (tick : Int) : Int := if checkE l ≠ 0 then checkE l else if QM.within tick 1 16777216 = false then 16 else 0
def atE (l : List Pt) (day tick : Int) : Int := if tickE l tick ≠ 0 then tickE l tick else if QM.within day 0 73048 = false then 15 else 0
def atN (l : List Pt) (day tick : Int) : Int := if atE l day tick = 0 then priceN l day tick else 0
theorem tick_zero {l : List Pt} {tick : Int} (h : tickE l tick = 0) : Good l ∧ 1 ≤ tick ∧ tick ≤ 16777216 := by
  unfold tickE at h
  split at h
  · rename_i h1; exact absurd h h1
  · rename_i h1
    split at h
    · cases h
    · rename_i h2
      exact ⟨check_good.1 (Classical.byContradiction h1), QM.within_true.1 (by simpa using h2)⟩
theorem tick_ok {l : List Pt} {tick : Int} (g : Good l) (ht : 1 ≤ tick ∧ tick ≤ 16777216) : tickE l tick = 0 := by
  unfold tickE
  rw [check_good.2 g, if_neg (by simp), QM.within_true.2 ht, if_neg (by simp)]
theorem at_zero {l : List Pt} {day tick : Int} (h : atE l day tick = 0) : Good l ∧ (1 ≤ tick ∧ tick ≤ 16777216) ∧ 0 ≤ day ∧ day ≤ 73048 := by
  unfold atE at h
  split at h
  · rename_i h1; exact absurd h h1
  · rename_i h1
    split at h
    · cases h
    · rename_i h2
      obtain ⟨a, b⟩ := tick_zero (Classical.byContradiction h1)
      exact ⟨a, b, QM.within_true.1 (by simpa using h2)⟩
theorem at_ok {l : List Pt} {day tick : Int} (g : Good l) (ht : 1 ≤ tick ∧ tick ≤ 16777216) (hd : 0 ≤ day ∧ day ≤ 73048) : atE l day tick = 0 ∧ atN l day tick = priceN l day tick := by
  have e : atE l day tick = 0 := by
    unfold atE
    rw [tick_ok g ht, if_neg (by simp), QM.within_true.2 hd, if_neg (by simp)]
  exact ⟨e, by unfold atN; rw [if_pos e]⟩
/-- Fill -/
def fillP (l : List Pt) (tick : Int) (p : Pt) : Pt := if p.known = true then p else ⟨p.exp, priceN l p.exp tick, true⟩
def fillL (l : List Pt) (tick : Int) : List Pt := l.map (fillP l tick)
/-- Shift -/
def moveP (by_ lo hi : Int) (p : Pt) : Pt := if p.known = true then ⟨p.exp, CM.clamp (p.price + by_) lo hi, true⟩ else p
def moveL (l : List Pt) (by_ lo hi : Int) : List Pt := l.map (moveP by_ lo hi)
def moveE (l : List Pt) (by_ lo hi : Int) : Int := if checkE l ≠ 0 then checkE l else if isP by_ = false then 17 else if (isP lo && isP hi && decide (lo ≤ hi)) = false then 2 else 0
theorem map_ord {f : Pt → Pt} (he : ∀ p, (f p).exp = p.exp) {l : List Pt} : ∀ {e : Int}, Ord l e → (∀ p ∈ l, (f p).known = true → isP (f p).price = true) → Ord (l.map f) e := by
  induction l with
  | nil => intro e _ _; trivial
  | cons q t ih =>
    rintro e ⟨a, b, c, d⟩ h
    rw [List.map_cons]
    refine ⟨by rw [he]; exact a, by rw [he]; exact b, h q List.mem_cons_self, ?_⟩
    rw [he]
    exact ih d fun p hp => h p (List.mem_cons_of_mem _ hp)
theorem low_map {f : Pt → Pt} (he : ∀ p, (f p).exp = p.exp) (hk : ∀ p, (f p).known = p.known) (hz : f zero = zero) (l : List Pt) (day : Int) : lowK (l.map f) day = f (lowK l day) := by
  unfold lowK
  suffices h : ∀ z : Pt, (l.map f).foldl (fun a p => if p.known && decide (p.exp ≤ day) then p else a) (f z) = f (l.foldl (fun a p => if p.known && decide (p.exp ≤ day) then p else a) z) by
    have := h zero; rwa [hz] at this
  induction l with
  | nil => intro z; rfl
  | cons q t ih =>
    intro z
    rw [List.map_cons, List.foldl_cons, List.foldl_cons, he, hk, ← ih]
    congr 1
    split <;> rfl
theorem high_map {f : Pt → Pt} (he : ∀ p, (f p).exp = p.exp) (hk : ∀ p, (f p).known = p.known) (hz : f zero = zero) (l : List Pt) (day : Int) : highK (l.map f) day = f (highK l day) := by
  unfold highK
  induction l with
  | nil => exact hz.symm
  | cons q t ih =>
    rw [List.map_cons, List.foldr_cons, List.foldr_cons, he, hk, ih]
    split <;> rfl
theorem moveP_exp (b lo hi : Int) (p : Pt) : (moveP b lo hi p).exp = p.exp := by unfold moveP; split <;> rfl
theorem moveP_known (b lo hi : Int) (p : Pt) : (moveP b lo hi p).known = p.known := by
  unfold moveP
  split
  · rename_i h; exact h.symm
  · rfl
theorem move_far {b : Int} {p : Pt} (hk : p.known = true) (h1 : -16777216 ≤ p.price + b) (h2 : p.price + b ≤ 16777216) : moveP b (-16777216) 16777216 p = ⟨p.exp, p.price + b, true⟩ := by
  unfold moveP CM.clamp
  rw [if_pos hk, if_neg (by omega), if_neg (by omega)]
theorem move_good {l : List Pt} (g : Good l) {b lo hi : Int} (hl : -16777216 ≤ lo) (hh : hi ≤ 16777216) (hle : lo ≤ hi) : Good (moveL l b lo hi) := by
  refine ⟨by unfold moveL; rw [List.length_map]; exact g.len, map_ord (moveP_exp b lo hi) g.ord ?_, ?_⟩
  · intro p hp hk
    rw [moveP_known] at hk
    rw [isP_true]
    unfold moveP
    rw [if_pos hk]
    have : lo ≤ CM.clamp (p.price + b) lo hi ∧ CM.clamp (p.price + b) lo hi ≤ hi := by unfold CM.clamp; split <;> (try split) <;> omega
    show -16777216 ≤ CM.clamp (p.price + b) lo hi ∧ CM.clamp (p.price + b) lo hi ≤ 16777216
    omega
  · obtain ⟨p, hp, hk⟩ := g.some
    exact ⟨moveP b lo hi p, List.mem_map_of_mem hp, by rw [moveP_known]; exact hk⟩
/-- prices far from their ends, moved by an even number of ticks -/
theorem move_price {l : List Pt} (g : Good l) {day tick m : Int} (hd : 0 ≤ day ∧ day ≤ 73048) (ht : 1 ≤ tick ∧ tick ≤ 1000) (hm : -500 ≤ m ∧ m ≤ 500)
    (hp : ∀ p ∈ l, p.known = true → -500000 ≤ p.price ∧ p.price ≤ 500000) : priceN (moveL l (2 * tick * m) (-16777216) 16777216) day tick = priceN l day tick + 2 * tick * m := by
  have hb : -1000000 ≤ 2 * tick * m ∧ 2 * tick * m ≤ 1000000 := by
    have := mul_in (a := m) (b := tick) (M := 500) (N := 1000) hm ⟨by omega, by omega⟩ (by omega)
    have e : 2 * tick * m = 2 * (m * tick) := by rw [Int.mul_assoc, Int.mul_comm tick]
    omega
  have hz : moveP (2 * tick * m) (-16777216) 16777216 zero = zero := rfl
  have e1 := low_map (moveP_exp (2 * tick * m) (-16777216) 16777216) (moveP_known _ _ _) hz l day
  have e2 := high_map (moveP_exp (2 * tick * m) (-16777216) 16777216) (moveP_known _ _ _) hz l day
  have eA : arA (moveL l (2 * tick * m) (-16777216) 16777216) day = moveP (2 * tick * m) (-16777216) 16777216 (arA l day) := by
    unfold arA moveL; rw [e1, e2, moveP_known]; split <;> rfl
  have eB : arB (moveL l (2 * tick * m) (-16777216) 16777216) day = moveP (2 * tick * m) (-16777216) 16777216 (arB l day) := by
    unfold arB moveL; rw [e1, e2, moveP_known, moveP_known]; split <;> rfl
  obtain ⟨⟨a1, a2, b1, b2⟩, e⟩ := ar_cases g (tick := tick) hd ⟨ht.1, by omega⟩
  have pa := hp _ a1 a2
  have pb := hp _ b1 b2
  have fA := move_far (b := 2 * tick * m) a2 (by omega) (by omega)
  have fB := move_far (b := 2 * tick * m) b2 (by omega) (by omega)
  rcases e with e | ⟨e, hpr⟩
  · rw [price_same tick e, price_same tick (by rw [eA, eB, e]), eA, fA]
  · have hne : arA (moveL l (2 * tick * m) (-16777216) 16777216) day ≠ arB (moveL l (2 * tick * m) (-16777216) 16777216) day := by
      rw [eA, eB, fA, fB]
      intro h
      have := hpr.lt
      injection h with h1 h2
      omega
    rw [price_tween tick e, price_tween tick hne, eA, eB, fA, fB]
    generalize arA l day = a at *
    generalize arB l day = b at *
    have L := hpr.lined
    have lt := hpr.lt
    have db := hpr.db
    have da := hpr.da
    have eV : lineV ⟨a.exp, a.price + 2 * tick * m, true⟩ ⟨b.exp, b.price + 2 * tick * m, true⟩ day = lineV a b day + 2 * m * ((b.exp - a.exp) * tick) := by
      unfold lineV
      show (a.price + 2 * tick * m) * (b.exp - a.exp) + (b.price + 2 * tick * m - (a.price + 2 * tick * m)) * (day - a.exp) = _
      rw [Int.add_mul, show b.price + 2 * tick * m - (a.price + 2 * tick * m) = b.price - a.price by omega,
        show 2 * tick * m * (b.exp - a.exp) = 2 * m * ((b.exp - a.exp) * tick) by ac_rfl]
      omega
    have hV : lineV a b day = a.price * (b.exp - a.exp) + (b.price - a.price) * (day - a.exp) := rfl
    have hs := mul_in (a := 2 * tick * m) (b := b.exp - a.exp) (M := 1000000) (N := 73048) hb ⟨by omega, by omega⟩ (by omega)
    have hs2 : 2 * tick * m * (b.exp - a.exp) = 2 * m * ((b.exp - a.exp) * tick) := by ac_rfl
    obtain ⟨x, y, c⟩ := L
    have N := near_moved (v := lineV a b day) (c := (b.exp - a.exp) * tick) (m := m) (by omega) (by omega) (by omega) (by omega) (by omega) (by omega)
    unfold tweenN tweenK
    rw [eV]
    show K (lineV a b day + 2 * m * ((b.exp - a.exp) * tick)) ((b.exp - a.exp) * tick) * tick = _
    rw [N, Int.add_mul, show 2 * m * tick = 2 * tick * m by rw [Int.mul_assoc, Int.mul_comm m, Int.mul_assoc]]
theorem move_back {l : List Pt} {b : Int} (hb : -1000000 ≤ b ∧ b ≤ 1000000) (hp : ∀ p ∈ l, p.known = true → -500000 ≤ p.price ∧ p.price ≤ 500000) :
    moveL (moveL l b (-16777216) 16777216) (-b) (-16777216) 16777216 = l := by
  unfold moveL
  rw [List.map_map]
  have : ∀ p ∈ l, (moveP (-b) (-16777216) 16777216 ∘ moveP b (-16777216) 16777216) p = p := by
    intro p h
    show moveP (-b) (-16777216) 16777216 (moveP b (-16777216) 16777216 p) = p
    by_cases hk : p.known = true
    · have := hp p h hk
      rw [move_far hk (by omega) (by omega), move_far rfl (by show _ ≤ p.price + b + -b; omega) (by show p.price + b + -b ≤ _; omega)]
      obtain ⟨x, y, z⟩ := p
      subst hk
      show Pt.mk x (y + b + -b) true = _
      rw [show y + b + -b = y by omega]
    · have e : ∀ c lo hi, moveP c lo hi p = p := fun c lo hi => by unfold moveP; rw [if_neg hk]
      rw [e, e]
  conv => rhs; rw [← List.map_id l]
  exact List.map_congr_left this
theorem fillP_exp (l : List Pt) (tick : Int) (p : Pt) : (fillP l tick p).exp = p.exp := by unfold fillP; split <;> rfl
theorem fillP_known (l : List Pt) (tick : Int) (p : Pt) : (fillP l tick p).known = true := by
  unfold fillP
  split
  · assumption
  · rfl
theorem fillP_price {l : List Pt} (g : Good l) (tick : Int) {p : Pt} (hp : p ∈ l) : (fillP l tick p).price = priceN l p.exp tick := by
  unfold fillP
  split
  · rename_i h; exact (price_known g tick hp h rfl).symm
  · rfl
theorem fill_good {l : List Pt} (g : Good l) {tick : Int} (ht : 1 ≤ tick ∧ tick ≤ 1000) (hp : ∀ p ∈ l, p.known = true → -500000 ≤ p.price ∧ p.price ≤ 500000) : Good (fillL l tick) := by
  refine ⟨by unfold fillL; rw [List.length_map]; exact g.len, map_ord (fillP_exp l tick) g.ord ?_, ?_⟩
  · intro p h _
    rw [fillP_price g tick h, isP_true]
    have hd := g.ord.mem p h
    have := price_between g (day := p.exp) (tick := tick) ⟨hd.1, hd.2.1⟩ ⟨ht.1, by omega⟩ hp
    omega
  · obtain ⟨p, hp, hk⟩ := g.some
    exact ⟨fillP l tick p, List.mem_map_of_mem hp, fillP_known l tick p⟩
theorem fill_again (l : List Pt) (tick t2 : Int) : fillL (fillL l tick) t2 = fillL l tick := by
  have : ∀ (m : List Pt), (∀ p ∈ m, p.known = true) → fillL m t2 = m := by
    intro m hm
    unfold fillL
    conv => rhs; rw [← List.map_id m]
    exact List.map_congr_left fun p hp => by unfold fillP; rw [if_pos (hm p hp)]; rfl
  apply this
  intro p hp
  obtain ⟨q, _, rfl⟩ := List.mem_map.1 hp
  exact fillP_known l tick q
end UM
