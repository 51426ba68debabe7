/- Layer 19's mathematics: points of a curve, its prices, filled and moved. -/
import Derived.Test.YtagmknahmkniaaaTapeMath
namespace UM
set_option linter.unusedVariables false
structure Pt where
  exp : Int
  price : Int
  known : Bool
deriving DecidableEq
def zero : Pt := ⟨0, 0, false⟩
def pAt (l : List Pt) (k : Nat) : Pt := l.getD k zero
theorem pAt_get {l : List Pt} {k : Nat} (h : k < l.length) : pAt l k = l[k] := by simp [pAt, List.getD, h]
def isP (n : Int) : Bool := QM.within n (-16777216) 16777216
theorem isP_true {n : Int} : isP n = true ↔ -16777216 ≤ n ∧ n ≤ 16777216 := QM.within_true
/-- the error of the points of a list, behind an earliest day -/
def restE : List Pt → Int → Bool → Int
  | [], _, k => if k = true then 0 else 11
  | p :: t, e, k => if QM.within p.exp e 73048 = false then 15 else if p.known = true ∧ isP p.price = false then 17 else restE t (p.exp + 1) (k || p.known)
def checkE (l : List Pt) : Int := if QM.within l.length 1 128 = false then 8 else restE l 0 false
theorem rest_end (l : List Pt) (e : Int) (k : Bool) : restE (l.drop l.length) e k = if k = true then 0 else 11 := by rw [List.drop_length]; rfl
theorem rest_at {l : List Pt} {j : Nat} (h : j < l.length) (e : Int) (k : Bool) :
    restE (l.drop j) e k = if QM.within (pAt l j).exp e 73048 = false then 15 else if (pAt l j).known = true ∧ isP (pAt l j).price = false then 17 else restE (l.drop (j + 1)) ((pAt l j).exp + 1) (k || (pAt l j).known) := by
  rw [List.drop_eq_getElem_cons h, pAt_get h]; rfl

/-- the quotient, rounded half to even -/
def K (v c : Int) : Int := CM.mdN v 1 c 5
theorem near_of {v c q r : Int} (h : v = c * q + r) (r0 : 0 ≤ r) (r1 : r < c) (c1 : 1 ≤ c) (c2 : c ≤ 4398046511104) (v1 : -4398046511104 ≤ v) (v2 : v ≤ 4398046511104) :
    CM.mdE v 1 c 5 = 0 ∧ K v c = q + if c < 2 * r ∨ (2 * r = c ∧ q % 2 = 1) then 1 else 0 := by
  have e := TP.md_small (a := v) (c := c) (mode := 5) (by omega) ⟨c1, by omega⟩ (by omega) (by omega)
  refine ⟨e, ?_⟩
  have hA : CM.mdA v 1 c 5 = true := by
    unfold CM.mdA
    rw [CM.fits_true.2 (by omega), CM.fits_true.2 (by omega), CM.fits_true.2 (by omega)]; rfl
  have hc0 : c ≠ 0 := by omega
  have hG : CM.mdG v 1 c 5 ≤ 1152921504606846976 := by
    unfold CM.mdE at e
    rw [if_pos hA, if_neg hc0] at e
    split at e
    · assumption
    · cases e
  have eN : K v c = if CM.neg v 1 c then -CM.mdG v 1 c 5 else CM.mdG v 1 c 5 := by
    unfold K CM.mdN
    rw [if_pos hA, if_neg hc0, if_pos hG]
  have sc : CM.size c = c := by unfold CM.size; rw [if_neg (by omega)]
  have s1 : CM.size 1 = 1 := rfl
  have key : ∀ a Q R : Int, 0 ≤ a → a = c * Q + R → 0 ≤ R → R < c → ((a.toNat * (1 : Int).toNat / c.toNat : Nat) : Int) = Q ∧ ((a.toNat * (1 : Int).toNat % c.toNat : Nat) : Int) = R := by
    intro a Q R a0 ha R0 R1
    have e1 : a.toNat * (1 : Int).toNat = a.toNat := by simp
    rw [e1, Int.natCast_ediv, Int.natCast_emod, Int.toNat_of_nonneg a0, Int.toNat_of_nonneg (by omega)]
    exact (Int.ediv_emod_unique (by omega)).2 ⟨by omega, R0, R1⟩
  by_cases hv : v < 0
  · have sv : CM.size v = -v := by unfold CM.size; rw [if_pos hv]
    have hn : CM.neg v 1 c = true := by unfold CM.neg; simp; omega
    rw [hn, if_pos rfl] at eN
    by_cases hr : r = 0
    · subst hr
      obtain ⟨k1, k2⟩ := key (-v) (-q) 0 (by omega) (by rw [Int.mul_neg]; omega) (by omega) (by omega)
      have e1 : (CM.mdQ v 1 c : Int) = -q := by unfold CM.mdQ; rw [sv, sc, s1]; exact k1
      have e2 : (CM.mdR v 1 c : Int) = 0 := by unfold CM.mdR; rw [sv, sc, s1]; exact k2
      rw [eN]; unfold CM.mdG; rw [e1, e2]
      have : CM.grow (-q) 0 (CM.size c) 5 (CM.neg v 1 c) = false := rfl
      rw [this, if_neg (by simp), if_neg (by omega)]; omega
    · obtain ⟨k1, k2⟩ := key (-v) (-q - 1) (c - r) (by omega) (by rw [Int.mul_sub, Int.mul_neg]; omega) (by omega) (by omega)
      have e1 : (CM.mdQ v 1 c : Int) = -q - 1 := by unfold CM.mdQ; rw [sv, sc, s1]; exact k1
      have e2 : (CM.mdR v 1 c : Int) = c - r := by unfold CM.mdR; rw [sv, sc, s1]; exact k2
      rw [eN]; unfold CM.mdG; rw [e1, e2, sc]
      have hgr : CM.grow (-q - 1) (c - r) c 5 (CM.neg v 1 c) = (decide (c < 2 * (c - r)) || (decide (2 * (c - r) = c) && decide ((-q - 1) % 2 = 1))) := by
        unfold CM.grow; rw [if_neg (by omega)]; simp
      rw [hgr]
      by_cases g1 : c < 2 * (c - r)
      · rw [if_pos (by simp [g1]), if_neg (by omega)]; omega
      · by_cases g2 : 2 * (c - r) = c
        · by_cases g3 : (-q - 1) % 2 = 1
          · rw [if_pos (by simp [g2, g3]), if_neg (by omega)]; omega
          · rw [if_neg (by simp [g2, g3]), if_pos (by omega)]; omega
        · rw [if_neg (by simp [g1, g2]), if_pos (by omega)]; omega
  · have sv : CM.size v = v := by unfold CM.size; rw [if_neg hv]
    have hn : CM.neg v 1 c = false := by unfold CM.neg; simp; omega
    rw [hn, if_neg (by simp)] at eN
    obtain ⟨k1, k2⟩ := key v q r (by omega) h r0 r1
    have e1 : (CM.mdQ v 1 c : Int) = q := by unfold CM.mdQ; rw [sv, sc, s1]; exact k1
    have e2 : (CM.mdR v 1 c : Int) = r := by unfold CM.mdR; rw [sv, sc, s1]; exact k2
    rw [eN]; unfold CM.mdG; rw [e1, e2, sc]
    by_cases hr : r = 0
    · subst hr
      have : CM.grow q 0 c 5 (CM.neg v 1 c) = false := rfl
      rw [this, if_neg (by simp), if_neg (by omega)]
    · have hgr : CM.grow q r c 5 (CM.neg v 1 c) = (decide (c < 2 * r) || (decide (2 * r = c) && decide (q % 2 = 1))) := by
        unfold CM.grow; rw [if_neg hr]; simp
      rw [hgr]
      congr 1
      simp
theorem near_ex {v c : Int} (c1 : 1 ≤ c) : v = c * (v / c) + v % c ∧ 0 ≤ v % c ∧ v % c < c := ⟨(Int.mul_ediv_add_emod v c).symm, Int.emod_nonneg _ (by omega), Int.emod_lt_of_pos _ (by omega)⟩
/-- how far the rounded multiple is away -/
theorem near_half {v c : Int} (c1 : 1 ≤ c) (c2 : c ≤ 4398046511104) (v1 : -4398046511104 ≤ v) (v2 : v ≤ 4398046511104) :
    CM.mdE v 1 c 5 = 0 ∧ 2 * (K v c * c) ≤ 2 * v + c ∧ 2 * v - c ≤ 2 * (K v c * c) := by
  obtain ⟨h, r0, r1⟩ := near_ex (v := v) c1
  obtain ⟨e, k⟩ := near_of h r0 r1 c1 c2 v1 v2
  generalize v / c = q at *
  generalize v % c = r at *
  refine ⟨e, ?_⟩
  rw [k, Int.add_mul, Int.mul_comm q c]
  split <;> (rename_i g; simp only [Int.one_mul, Int.zero_mul]; omega)
/-- moved by an even number -/
theorem near_moved {v c m : Int} (c1 : 1 ≤ c) (c2 : c ≤ 4398046511104) (v1 : -4398046511104 ≤ v) (v2 : v ≤ 4398046511104)
    (w1 : -4398046511104 ≤ v + 2 * m * c) (w2 : v + 2 * m * c ≤ 4398046511104) : K (v + 2 * m * c) c = K v c + 2 * m := by
  obtain ⟨h, r0, r1⟩ := near_ex (v := v) c1
  have k1 := (near_of h r0 r1 c1 c2 v1 v2).2
  have h2 : v + 2 * m * c = c * (v / c + 2 * m) + v % c := by rw [Int.mul_add, Int.mul_comm c (2 * m)]; omega
  have k2 := (near_of h2 r0 r1 c1 c2 w1 w2).2
  rw [k1, k2]
  have e2 : (v / c + 2 * m) % 2 = v / c % 2 := by omega
  rw [e2]; omega
end UM
