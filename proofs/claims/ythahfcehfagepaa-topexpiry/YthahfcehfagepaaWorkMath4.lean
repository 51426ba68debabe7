/- There and back; counts; expiries. -/
import Derived.Test.YthahfcehfagepaaWorkH
namespace KM
set_option linter.unusedVariables false

/-- so many on and so many back -/
theorem add_there {zs : List Int} {day n : Int} (hc : cdE zs day = 0) (hw : works zs day = true) (hn : 0 ≤ n) (he : adE zs day n = 0) : adN zs (adN zs day n) (-n) = day ∧ adE zs (adN zs day n) (-n) = 0 := by
  obtain ⟨k1, k2⟩ := cdE_zero hc
  obtain ⟨h0, h1⟩ := DM.isd_of k2
  obtain ⟨_, x, e1, e2⟩ := ad_some he
  obtain ⟨x0, x1, x2⟩ := add_in h0 h1 e1
  have hcx : cdE zs x = 0 := cdE_ok k1 (DM.isd_true x0 x1)
  rw [e2]
  have key : addO (works zs) x (-n) = some day := by
    by_cases hn0 : n = 0
    · subst hn0
      rw [add_zero, hw] at e1
      simp at e1
      subst e1
      show addO (works zs) day 0 = some day
      rw [add_zero, hw]; rfl
    · have hu : up (works zs) (73048 - day).toNat (day + 1) n.toNat = some x := by
        unfold addO at e1; rw [if_pos (by omega)] at e1; exact e1
      have hup := up_some (by omega) hu
      have hb := back hw (by omega) hup x.toNat (by omega)
      unfold addO
      rw [if_neg (by omega), if_pos (by omega), Int.neg_neg]
      exact down_of (by omega) hb
  rw [(ad_ok hcx).1, (ad_ok hcx).2, key]
  exact ⟨rfl, rfl⟩
/-- up to the n-th one there are n -/
theorem add_count {zs : List Int} {day n : Int} (hn : 0 < n) (he : adE zs day n = 0) : coN zs (day + 1) (adN zs day n) = n ∧ coE zs (day + 1) (adN zs day n) = 0 ∧ 0 ≤ day ∧ day ≤ 73048 := by
  obtain ⟨hc, x, e1, e2⟩ := ad_some he
  obtain ⟨k1, k2⟩ := cdE_zero hc
  obtain ⟨h0, h1⟩ := DM.isd_of k2
  obtain ⟨x0, x1, x2⟩ := add_in h0 h1 e1
  unfold addO at e1
  rw [if_pos hn] at e1
  have hup := up_some (by omega) e1
  have hct := count_up hup
  have hlt : day + 1 ≤ x := hup.1
  rw [e2, (co_ok k1 (DM.isd_true (by omega) (by omega)) (DM.isd_true x0 x1)).1, (co_ok k1 (DM.isd_true (by omega) (by omega)) (DM.isd_true x0 x1)).2, hct]
  exact ⟨by omega, rfl, h0, h1⟩
/-- counts side by side -/
theorem co_side {zs : List Int} {a b c : Int} (h1 : coE zs a b = 0) (h2 : coE zs (b + 1) c = 0) (h3 : coE zs a c = 0) (hab : a ≤ b) (hbc : b < c) : coN zs a b + coN zs (b + 1) c = coN zs a c := by
  obtain ⟨k1, ka, kb⟩ := co_zero h1
  obtain ⟨_, kb1, kc⟩ := co_zero h2
  rw [(co_ok k1 ka kb).1, (co_ok k1 kb1 kc).1, (co_ok k1 ka kc).1]
  have := count_side (works zs) hab hbc
  omega
theorem co_range (zs : List Int) (a b : Int) : 0 ≤ coN zs a b ∧ coN zs a b ≤ 73049 := by
  by_cases h : coE zs a b = 0
  · obtain ⟨k1, ka, kb⟩ := co_zero h
    obtain ⟨a0, a1⟩ := DM.isd_of ka
    obtain ⟨b0, b1⟩ := DM.isd_of kb
    rw [(co_ok k1 ka kb).1]
    have := cnt_le (works zs) a (b - a + 1).toNat
    unfold count; omega
  · have : coN zs a b = 0 := by unfold coN; rw [if_neg h]
    rw [this]; omega

/-! expiries -/
theorem count_one {W : Int → Bool} {f x : Int} (h0 : 0 ≤ f) (h : exO W f = some x) : 0 ≤ x ∧ x ≤ f ∧ W x = true ∧ count W x f = 1 := by
  unfold exO at h
  by_cases hw : W f = true
  · rw [if_pos hw] at h
    injection h with h
    subst h
    refine ⟨h0, Int.le_refl _, hw, ?_⟩
    unfold count
    rw [show (f - f + 1).toNat = 0 + 1 by omega, cnt_front, if_pos hw]; rfl
  · rw [if_neg hw] at h
    obtain ⟨a1, a2, a3, a4⟩ := down_some (by omega) h
    refine ⟨by omega, by omega, a3, ?_⟩
    unfold count
    rw [show (f - x + 1).toNat = (f - 1 - x + 1).toNat + 1 by omega]
    show cnt W x (f - 1 - x + 1).toNat + (if W (x + ((f - 1 - x + 1).toNat : Nat)) = true then 1 else 0) = 1
    rw [a4, show x + (((f - 1 - x + 1).toNat : Nat) : Int) = f by omega, if_neg hw]
/-- a day that works ahead of a third Friday is not behind that month's expiry -/
theorem ex_later {W : Int → Bool} {f x y : Int} (h0 : 0 ≤ f) (h : exO W f = some y) (hx : W x = true) (hxf : x ≤ f) : x ≤ y := by
  unfold exO at h
  by_cases hw : W f = true
  · rw [if_pos hw] at h
    injection h with h
    omega
  · rw [if_neg hw] at h
    obtain ⟨a1, a2, a3, a4⟩ := down_some (by omega) h
    rcases Int.lt_or_le y x with g | g
    · exfalso
      have hne : x ≠ f := fun e => hw (e ▸ hx)
      have c := cnt_add W y (x - y).toNat (f - 1 - x + 1).toNat
      rw [show (x - y).toNat + (f - 1 - x + 1).toNat = (f - 1 - y + 1).toNat by omega, show y + (((x - y).toNat : Nat) : Int) = x by omega] at c
      have c1 := cnt_front W y ((x - y).toNat - 1)
      rw [show (x - y).toNat - 1 + 1 = (x - y).toNat by omega, if_pos a3] at c1
      have c2 := cnt_front W x ((f - 1 - x + 1).toNat - 1)
      rw [show (f - 1 - x + 1).toNat - 1 + 1 = (f - 1 - x + 1).toNat by omega, if_pos hx] at c2
      omega
    · exact g
theorem ex_some {zs : List Int} {y m : Int} (h : exE zs y m = 0) : checkE zs = 0 ∧ DM.nthE y m 5 3 = 0 ∧ exO (works zs) (DM.nthN y m 5 3) = some (exN zs y m) := by
  by_cases h1 : checkE zs = 0
  · by_cases h2 : DM.nthE y m 5 3 = 0
    · rw [(ex_ok h1 h2).2] at h
      obtain ⟨x, e1, e2⟩ := oE_zero h
      exact ⟨h1, h2, by rw [(ex_ok h1 h2).1, e2]; exact e1⟩
    · rw [(ex_no h1 h2).2] at h; exact absurd h h2
  · rw [(ex_bad h1).2] at h; exact absurd h h1
theorem ex_err {zs : List Int} {y m : Int} (h : exE zs y m ≠ 0) : exN zs y m = 0 := by
  by_cases h1 : checkE zs = 0
  · by_cases h2 : DM.nthE y m 5 3 = 0
    · rw [(ex_ok h1 h2).2] at h
      rw [(ex_ok h1 h2).1]
      cases e : exO (works zs) (DM.nthN y m 5 3) with
      | none => rfl
      | some x => rw [e] at h; exact absurd rfl h
    · exact (ex_no h1 h2).1
  · exact (ex_bad h1).1
/-- the next month's days are behind this one's -/
theorem month_next {y m d d' : Int} (h : DM.okDate y m d) (h' : DM.okDate (y + m / 12) (m % 12 + 1) d') : DM.dayOf y m d < DM.dayOf (y + m / 12) (m % 12 + 1) d' := by
  obtain ⟨p1, p2, p3, p4, p5, p6⟩ := h
  obtain ⟨q1, q2, q3, q4, q5, q6⟩ := h'
  by_cases hm : m = 12
  · subst hm
    rw [show y + (12 : Int) / 12 = y + 1 by omega, show (12 : Int) % 12 + 1 = 1 by omega] at *
    have a := DM.day_in (y := y) (m := 12) (d := d) ⟨p1, p2, p3, p4, p5, p6⟩
    obtain ⟨_, _, b3, _⟩ := DM.day_in (y := y + 1) (m := 1) (d := d') ⟨q1, q2, q3, q4, q5, q6⟩
    have e : (y + 1 - 2000).toNat = (y - 2000).toNat + 1 := by omega
    rw [e] at b3
    omega
  · rw [show y + m / 12 = y by omega, show m % 12 + 1 = m + 1 by omega] at *
    have a := DM.day_in (y := y) (m := m) (d := d) ⟨p1, p2, p3, p4, p5, p6⟩
    have b := DM.day_in (y := y) (m := m + 1) (d := d') ⟨q1, q2, q3, q4, q5, q6⟩
    have e : (m + 1 - 1).toNat = (m - 1).toNat + 1 := by omega
    rw [e] at b
    omega
/-- what TopExpiry looks at -/
theorem top_ex {zs : List Int} {y m : Int} (h : exE zs y m = 0) :
    DM.nthE y m 5 3 = 0 ∧ wkN zs (exN zs y m) = true ∧ cdE zs (exN zs y m) = 0 ∧ coN zs (exN zs y m) (DM.nthN y m 5 3) = 1 ∧ coE zs (exN zs y m) (DM.nthN y m 5 3) = 0 ∧ exN zs y m ≤ DM.nthN y m 5 3 ∧ 0 ≤ exN zs y m ∧
      DM.nthN y m 5 3 ≤ 73048 ∧ (2000 ≤ y ∧ y ≤ 2199 ∧ 1 ≤ m ∧ m ≤ 12) ∧ (exE zs (y + m / 12) (m % 12 + 1) = 0 → exN zs y m ≤ exN zs (y + m / 12) (m % 12 + 1)) := by
  obtain ⟨h1, h2, h3⟩ := ex_some h
  obtain ⟨f0, f1, hok, hf⟩ := nth_in h2
  obtain ⟨a1, a2, a3, a4⟩ := count_one f0 h3
  have hid : DM.isd (exN zs y m) = true := DM.isd_true a1 (by omega)
  have hif : DM.isd (DM.nthN y m 5 3) = true := DM.isd_true f0 f1
  have hcd := cdE_ok h1 hid
  refine ⟨h2, by rw [wkN_ok hcd]; exact a3, hcd, by rw [(co_ok h1 hid hif).1, a4]; rfl, (co_ok h1 hid hif).2, a2, a1, f1, ⟨hok.1, hok.2.1, hok.2.2.1, hok.2.2.2.1⟩, ?_⟩
  intro hn
  obtain ⟨_, g2, g3⟩ := ex_some hn
  obtain ⟨k0, k1, kok, kf⟩ := nth_in g2
  have hlt := month_next hok kok
  rw [← hf, ← kf] at hlt
  exact ex_later k0 g3 a3 (by omega)
end KM
