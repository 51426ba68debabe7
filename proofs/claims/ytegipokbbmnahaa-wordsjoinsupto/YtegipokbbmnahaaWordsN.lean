/- Contract: layer 3's examples hold. -/
import Derived.Test.YtegipokbbmnahaaWordsM
import Derived.Test.YtegipokbbmnahaaWordsJ
import Derived.Test.YtegipokbbmnahaaWordsE
namespace Go.Proofs.Ytegipokbbmnahaa
open Go.RowKit
set_option linter.unusedVariables false

theorem ex_f1 : WM.fieldsE (L ⟨#[97, 32, 98, 99]⟩) = 0 ∧ strs (WM.fieldsN (L ⟨#[97, 32, 98, 99]⟩)) = [⟨#[97]⟩, ⟨#[98, 99]⟩] := by
  have h : WM.fieldsE [97, 32, 98, 99] = 0 := by decide
  refine ⟨h, ?_⟩
  show strs (WM.fieldsN [97, 32, 98, 99]) = _
  unfold WM.fieldsN
  rw [if_pos ⟨h, by simp⟩]
  rfl
theorem ex_f2 : WM.fieldsE (L ⟨#[97, 32, 32, 98]⟩) = 5 := by show WM.fieldsE [97, 32, 32, 98] = 5; decide
theorem ex_i1 : WM.intN (L ⟨#[45, 49, 50]⟩) = -12 ∧ WM.intE (L ⟨#[45, 49, 50]⟩) = 0 := by show WM.intN [45, 49, 50] = -12 ∧ WM.intE [45, 49, 50] = 0; decide
theorem ex_i2 : WM.intE (L ⟨#[48, 48, 55]⟩) = 5 := by show WM.intE [48, 48, 55] = 5; decide
theorem ex_c1 : WM.centsN (L ⟨#[45, 49, 46, 50, 48]⟩) = -120 ∧ WM.centsE (L ⟨#[45, 49, 46, 50, 48]⟩) = 0 := by show WM.centsN [45, 49, 46, 50, 48] = -120 ∧ WM.centsE [45, 49, 46, 50, 48] = 0; decide
theorem ex_l1 : WM.linesE (L ⟨#[10]⟩) = 0 ∧ strs (WM.linesN (L ⟨#[10]⟩)) = [⟨#[]⟩] := by
  constructor
  · show WM.linesE [10] = 0; decide
  · show strs (WM.linesN [10]) = _; rfl
theorem ex_n1 : WM.name (L ⟨#[97, 49]⟩) = true := by show WM.name [97, 49] = true; decide
theorem ex_n2 : WM.name (L ⟨#[49, 97]⟩) = false := by show WM.name [49, 97] = false; decide
theorem ex_m1 : S (WM.moneyL 5) = ⟨#[48, 46, 48, 53]⟩ := by
  have : WM.moneyL 5 = [48, 46, 48, 53] := by
    show WM.dec 0 ++ [46, 48, 53] = _
    rw [WM.dec_small (by omega)]; rfl
  rw [this]; rfl

theorem OS.two {w : World} {B : Nat} {v : Value} {a b : ByteArray} (h : OS w B v [a, b]) (ha : a.size ≤ maxLen) (hb : b.size ≤ maxLen) : ∃ A cap, v = .slice A 2 cap ∧ Strs w A [a, b] := by
  obtain ⟨A, cap, e, hs⟩ := h.strs (by intro s hs; simp at hs; rcases hs with rfl | rfl <;> assumption)
  exact ⟨A, cap, e, hs⟩
theorem OS.one {w : World} {B : Nat} {v : Value} {a : ByteArray} (h : OS w B v [a]) (ha : a.size ≤ maxLen) : ∃ A cap, v = .slice A 1 cap ∧ Strs w A [a] := by
  obtain ⟨A, cap, e, hs⟩ := h.strs (by intro s hs; simp at hs; rw [hs]; exact ha)
  exact ⟨A, cap, e, hs⟩

set_option maxHeartbeats 2000000 in
set_option maxRecDepth 100000 in
theorem goes3_any (w : World) : Calls Try.prog 20 #[] w fun e w' => e = .returned (.bool true) ∧ Below w.heap.size w w' := by
  have F1 := fun ww => fields_any ⟨#[97, 32, 98, 99]⟩ ww (by show 4 ≤ _; omega)
  have F2 := fun ww => fields_any ⟨#[97, 32, 32, 98]⟩ ww (by show 4 ≤ _; omega)
  have I1 := fun ww => int_any ⟨#[45, 49, 50]⟩ ww (by show 3 ≤ _; omega)
  have I2 := fun ww => int_any ⟨#[48, 48, 55]⟩ ww (by show 3 ≤ _; omega)
  have C1 := fun ww => cents_any ⟨#[45, 49, 46, 50, 48]⟩ ww (by show 5 ≤ _; omega)
  have L1 := fun ww => lines_any ⟨#[10]⟩ ww (by show 1 ≤ _; omega)
  have N1 := fun ww => name_any ⟨#[97, 49]⟩ ww (by show 2 ≤ _; omega)
  have N2 := fun ww => name_any ⟨#[49, 97]⟩ ww (by show 2 ≤ _; omega)
  have M1 := fun ww => money_any 5 ww (by omega) (by omega)
  rw [ex_f1.1, ex_f1.2] at F1
  rw [ex_f2] at F2
  rw [ex_i1.1, ex_i1.2] at I1
  rw [ex_i2] at I2
  rw [ex_c1.1, ex_c1.2] at C1
  rw [ex_l1.1, ex_l1.2] at L1
  rw [ex_n1] at N1
  rw [ex_n2] at N2
  rw [ex_m1] at M1
  have HF1 := Lib.hid F1; have HF2 := Lib.hid F2; have HI1 := Lib.hid I1; have HI2 := Lib.hid I2; have HC1 := Lib.hid C1; have HL1 := Lib.hid L1; have HN1 := Lib.hid N1; have HN2 := Lib.hid N2; have HM1 := Lib.hid M1
  clear F1 F2 I1 I2 C1 L1 N1 N2 M1
  generalize WM.intN (L ⟨#[48, 48, 55]⟩) = i2 at *
  generalize strs (WM.fieldsN (L ⟨#[97, 32, 32, 98]⟩)) = f2 at *
  go_enter Try.func20, Try.ntmps20
  go_wp2_with fail
  refine (HF1.out _).mono ?_
  rintro e w1 ⟨v1, rfl, o1, b1⟩
  obtain ⟨A1, c1, rfl, s1⟩ := o1.two (by show 1 ≤ _; simp [maxLen]) (by show 2 ≤ _; simp [maxLen])
  have HS := Lib.hid s1
  have HB := Lib.hid b1
  clear o1 s1 b1
  go_wp2_with fail
  refine (HF2.out _).mono ?_
  rintro e w2 ⟨v2, rfl, o2, b2⟩
  have HS2 := Lib.hid (HS.out.below b2)
  have HB2 := Lib.hid (HB.out.trans (b2.mono HB.out.size))
  clear o2 b2 HS HB
  go_wp2_with fail
  refine (HI1.out _).mono ?_
  rintro e w3 ⟨rfl, n3, rfl⟩
  have HS3 := Lib.hid (HS2.out.drewN n3)
  have HB3 := Lib.hid (below_drewN HB2.out n3)
  generalize w2.drewN n3 = w3 at *
  clear HS2 HB2
  go_wp2_with fail
  refine (HI2.out _).mono ?_
  rintro e w4 ⟨rfl, n4, rfl⟩
  have HS4 := Lib.hid (HS3.out.drewN n4)
  have HB4 := Lib.hid (below_drewN HB3.out n4)
  generalize w3.drewN n4 = w4 at *
  clear HS3 HB3
  go_wp2_with fail
  refine (HC1.out _).mono ?_
  rintro e w5 ⟨rfl, b5⟩
  have HS5 := Lib.hid (HS4.out.below b5)
  have HB5 := Lib.hid (HB4.out.trans (b5.mono HB4.out.size))
  clear b5 HS4 HB4
  go_wp2_with fail
  refine (HL1.out _).mono ?_
  rintro e w6 ⟨v6, rfl, o6, b6⟩
  obtain ⟨A6, c6, rfl, s6⟩ := o6.one (by show 0 ≤ _; simp)
  have HT6 := Lib.hid s6
  obtain ⟨g, off, s, rfl, hg, hcell, HS, _⟩ := (HS5.out.below b6).get (k := 1) (by simp)
  have e1 : s = ⟨#[98, 99]⟩ := HS.out.symm
  subst e1
  have HB6 := Lib.hid (HB5.out.trans (b6.mono HB5.out.size))
  clear b6 o6 s6 HS5 HB5 HS
  go_wp2_with fail
  refine (HN1.out _).mono ?_
  rintro e w7 ⟨rfl, rfl⟩
  go_wp2_with fail
  refine (HN2.out _).mono ?_
  rintro e w7 ⟨rfl, rfl⟩
  go_wp2_with fail
  refine (HM1.out _).mono ?_
  rintro e w7 ⟨rfl, b7⟩
  clear hcell
  obtain ⟨g2, off2, s2, rfl, hg2, hcell2, HS2, _⟩ := (HT6.out.below b7).get (k := 0) (by simp)
  have e2 : s2 = ⟨#[]⟩ := HS2.out.symm
  subst e2
  have HB7 := Lib.hid (HB6.out.trans (b7.mono HB6.out.size))
  clear b7 HB6 HT6 HS2
  rw [Nat.add_zero] at hcell2
  go_wp2_with fail
  go_ret
  exact ⟨rfl, HB7.out⟩
end Go.Proofs.Ytegipokbbmnahaa
