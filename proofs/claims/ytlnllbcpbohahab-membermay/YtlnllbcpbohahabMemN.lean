/- Layer 11: the page's examples. -/
import Derived.Test.YtlnllbcpbohahabMemM
namespace Go.Proofs.Ytlnllbcpbohahab
open Go.RowKit Go.Recs
set_option linter.unusedVariables false
set_option linter.unusedSimpArgs false
abbrev bravo : ByteArray := ⟨#[98, 114, 97, 118, 111]⟩
abbrev alfa : ByteArray := ⟨#[97, 108, 102, 97]⟩
abbrev houseS : ByteArray := ⟨#[104, 111, 117, 115, 101]⟩
theorem ne_ab : MM.eq bravo alfa = false := by unfold MM.eq; rw [L_toList, L_toList]; decide
theorem lt_ab : MM.lt alfa bravo = true := by unfold MM.lt; rw [L_toList, L_toList]; decide
theorem eq_aa (s : ByteArray) : MM.eq s s = true := MM.eq_iff.2 rfl
def l1 : List MM.Mem := [⟨bravo, 1, []⟩]
def l2 : List MM.Mem := [⟨alfa, 1, []⟩, ⟨bravo, 1, []⟩]
def l3 : List MM.Mem := [⟨alfa, 1, [⟨houseS, 1⟩]⟩, ⟨bravo, 1, []⟩]
def l4 : List MM.Mem := [⟨alfa, 2, [⟨houseS, 1⟩]⟩, ⟨bravo, 1, []⟩]
theorem g1 : MM.addE [] bravo = 0 ∧ MM.addL [] bravo = l1 := ad_ok (l := []) (n := bravo) rfl (by decide) rfl (by simp)
theorem k1 : MM.checkE l1 = 0 := by have := MM.add_check g1.1; rw [g1.2] at this; exact this
theorem g2 : MM.addE l1 alfa = 0 ∧ MM.addL l1 alfa = l2 := by
  have h : (MM.pl l1 alfa).isSome = false := by simp [MM.pl, l1, List.findIdx?_cons, ne_ab]
  have := ad_ok k1 (n := alfa) (by decide) h (by simp [l1])
  refine ⟨this.1, ?_⟩
  rw [this.2]
  simp [MM.insM, MM.ins, l1, l2, lt_ab]
theorem k2 : MM.checkE l2 = 0 := by have := MM.add_check g2.1; rw [g2.2] at this; exact this
theorem p2 : MM.pl l2 alfa = some 0 := by simp [MM.pl, l2, List.findIdx?_cons, eq_aa]
theorem g3 : MM.openE l2 alfa houseS 1 = 0 ∧ MM.openL l2 alfa houseS 1 = l3 := oe_yes (a := houseS) (k := 1) k2 p2 rfl (op_yes (by decide) rfl rfl (by decide))
theorem k3 : MM.checkE l3 = 0 := by have := MM.open_check g3.1; rw [g3.2] at this; exact this
theorem p3 : MM.pl l3 alfa = some 0 := by simp [MM.pl, l3, List.findIdx?_cons, eq_aa]
theorem pa3 : (MM.pa [⟨houseS, 1⟩] houseS) = some 0 := by simp [MM.pa, List.findIdx?_cons, eq_aa]
theorem g4 : MM.openE l3 alfa houseS 1 = 12 := by
  have h : MM.opE (MM.mAt l3 0).accs houseS 1 = 12 := op_there (by decide) rfl (by show (MM.pa [⟨houseS, 1⟩] houseS).isSome = true; rw [pa3]; rfl)
  have := oe_no (a := houseS) (k := 1) k3 p3 rfl (by rw [h]; decide)
  rw [this.1, h]
theorem g5 : MM.statE l3 alfa 2 = 0 ∧ MM.statL l3 alfa 2 = l4 := st_yes k3 p3 rfl
theorem p4 : MM.pl l4 alfa = some 0 := by simp [MM.pl, l4, List.findIdx?_cons, eq_aa]
theorem g6 : MM.mayE l4 alfa houseS 1 = 13 := by
  rw [my_state p4 (by show (MM.pa [⟨houseS, 1⟩] houseS).isSome = true; rw [pa3]; rfl)]; rfl
theorem g7 : MM.mayE l4 alfa houseS 7 = 0 := by
  rw [my_state p4 (by show (MM.pa [⟨houseS, 1⟩] houseS).isSome = true; rw [pa3]; rfl)]; rfl

set_option maxHeartbeats 8000000 in
set_option maxRecDepth 100000 in
theorem goes11_any (w : World) : Calls Try.prog 5 #[] w fun e w' => e = .returned (.bool true) ∧ Below w.heap.size w w' := by
  have C1 := Lib.hid (padd_any none [] 0 bravo w (Mems.nil _ _) (Nat.le_refl _) (by decide))
  have C2 := Lib.hid (fun A cap ww h hc => padd_any A l1 cap alfa ww h hc (by decide))
  have C3 := Lib.hid (fun A cap ww h => popen_any A l2 cap alfa houseS 1 ww h (by decide) ⟨by decide, by decide⟩)
  have C4 := Lib.hid (fun A cap ww h => popen_any A l3 cap alfa houseS 1 ww h (by decide) ⟨by decide, by decide⟩)
  have C5 := Lib.hid (fun A cap ww h => pstat_any A l3 cap alfa 2 ww h ⟨by decide, by decide⟩)
  have C6 := Lib.hid (fun A cap ww h => mmay_any A l4 cap alfa houseS 1 ww h)
  have C7 := Lib.hid (fun A cap ww h => mmay_any A l4 cap alfa houseS 7 ww h)
  rw [g1.1, g1.2] at C1
  rw [g2.1, g2.2] at C2
  rw [g3.1, g3.2] at C3
  rw [g4] at C4
  rw [g5.1, g5.2] at C5
  rw [g6] at C6
  rw [g7] at C7
  generalize MM.openL l3 alfa houseS 1 = o4 at *
  have e1 : l1.length = 1 := rfl
  have e2 : l2.length = 2 := rfl
  have e3 : l3.length = 2 := rfl
  have e4 : l4.length = 2 := rfl
  rw [e1] at C2; rw [e2] at C3; rw [e3] at C4 C5; rw [e4] at C6 C7
  clear e1 e2 e3 e4
  go_enter Try.func5, Try.ntmps5
  go_wp2_with fail
  refine C1.out.mono ?_
  rintro e w1 ⟨v1, rfl, ⟨A1, c1, rfl, hM1, hc1⟩, b1⟩
  have HB1 := Lib.hid b1
  have HM1 := Lib.hid hM1
  clear b1 hM1
  rw [show l1.length = 1 from rfl] at *
  go_wp2_with fail
  refine (C2.out _ _ _ HM1.out hc1).mono ?_
  rintro e w2 ⟨v2, rfl, ⟨A2, c2, rfl, hM2, hc2⟩, b2⟩
  have HB2 := Lib.hid (HB1.out.trans (b2.mono HB1.out.size))
  have HM2 := Lib.hid hM2
  clear b2 hM2 hc1 HM1 HB1 hc2
  rw [show l2.length = 2 from rfl] at *
  go_wp2_with fail
  refine (C3.out _ _ _ HM2.out).mono ?_
  rintro e w3 ⟨v3, rfl, ⟨A3, c3, rfl, hM3, hc3⟩, b3⟩
  have HB3 := Lib.hid (HB2.out.trans (b3.mono HB2.out.size))
  have HM3 := Lib.hid hM3
  clear b3 hM3 HM2 HB2 hc3
  rw [show l3.length = 2 from rfl] at *
  go_wp2_with fail
  refine (C4.out _ _ _ HM3.out).mono ?_
  rintro e w4 ⟨v4, rfl, ⟨A4, c4, rfl, hM4, hc4⟩, b4⟩
  have HB4 := Lib.hid (HB3.out.trans (b4.mono HB3.out.size))
  have HM4 := Lib.hid (HM3.out.below b4)
  clear b4 hM4 HM3 HB3 hc4
  go_wp2_with fail
  refine (C5.out _ _ _ HM4.out).mono ?_
  rintro e w5 ⟨v5, rfl, ⟨A5, c5, rfl, hM5, hc5⟩, b5⟩
  have HB5 := Lib.hid (HB4.out.trans (b5.mono HB4.out.size))
  have HM5 := Lib.hid hM5
  obtain ⟨b, off, A', cap', m, rfl, hb, HV, q1, q2, q3, q4, d0, d1, d2⟩ := hM5.get (k := 0) (by decide)
  have hm : m.name = alfa := by rw [← HV.out]; rfl
  rw [hm] at d0
  have d0' : w5.cell? ⟨b, off, none⟩ = some (.string alfa) := by simpa using d0
  have hn : (alfa.toList != [97, 108, 102, 97]) = false := by rw [L_toList]; decide
  have hn2 : (alfa.toList == [97, 108, 102, 97]) = true := by rw [L_toList]; decide
  have hn3 : alfa.toList = [97, 108, 102, 97] := by rw [L_toList]; rfl
  clear b5 hM5 HM4 HB4 hc5 q1 q2 q3 q4 d0 d1 d2 hm HV
  rw [show l4.length = 2 from rfl] at *
  go_wp2_with fail
  refine (C6.out _ _ _ HM5.out).mono ?_
  rintro e w6 ⟨rfl, b6⟩
  have HB6 := Lib.hid (HB5.out.trans (b6.mono HB5.out.size))
  have HM6 := Lib.hid (HM5.out.below b6)
  clear b6 HM5 HB5 d0'
  go_wp2_with fail
  refine (C7.out _ _ _ HM6.out).mono ?_
  rintro e w7 ⟨rfl, b7⟩
  have HB7 := Lib.hid (HB6.out.trans (b7.mono HB6.out.size))
  clear b7
  go_wp2_with fail
  go_ret
  exact ⟨rfl, HB7.out⟩
end Go.Proofs.Ytlnllbcpbohahab
