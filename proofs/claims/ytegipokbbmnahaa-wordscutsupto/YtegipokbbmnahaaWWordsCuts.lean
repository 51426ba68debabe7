import Derived.Test.YtegipokbbmnahaaWordsO
namespace Go.Proofs.Ytegipokbbmnahaa.wordsCuts
open Go.RowKit
set_option linter.unusedVariables false

set_option maxHeartbeats 1000000 in
theorem walk (s : ByteArray) (A : Option Addr) (cap : Nat) (ls : List ByteArray) (w : World) (hs : s.size ≤ 9223372036854775807) (hI : Strs w A ls) (_ : s.size ≤ 1048576) (hl : WM.tl 1 (sizes ls) ≤ 1048576) :
    Calls Try.prog 5 #[.string s, .slice A ls.length cap] w fun e w' => e = .returned (.bool true) ∧ Below w.heap.size w w' := by
  have CF := fun ww => fields_any s ww hs
  have CRF := fun ww => rfields_any s ww hs
  have CL := fun ww => lines_any s ww hs
  have CRL := fun ww => rlines_any s ww hs
  have SF := fun (ww : World) (B : Nat) (v : Value) (h : OS ww B v (strs (WM.fieldsN (L s)))) => fields_strs hs h
  have SL := fun (ww : World) (B : Nat) (v : Value) (h : OS ww B v (strs (WM.linesN (L s)))) => lines_strs hs h
  generalize strs (WM.fieldsN (L s)) = fN at *
  generalize WM.fieldsE (L s) = fE at *
  generalize strs (WM.linesN (L s)) = lN at *
  generalize WM.linesE (L s) = lE at *
  have HCF := Lib.hid CF; have HCRF := Lib.hid CRF; have HCL := Lib.hid CL; have HCRL := Lib.hid CRL; have HSF := Lib.hid SF; have HSL := Lib.hid SL
  have HI := Lib.hid hI
  clear CF CRF CL CRL SF SL hI
  go_enter Try.func5, Try.ntmps5
  go_wp2_with fail
  refine (HCF.out _).mono ?_
  rintro e w1 ⟨v1, rfl, o1, b1⟩
  obtain ⟨A1, c1, rfl, s1⟩ := HSF.out _ _ _ o1
  have HS1 := Lib.hid s1
  have HB1 := Lib.hid b1
  clear o1 s1 b1
  go_wp2_with fail
  refine (HCRF.out _).mono ?_
  rintro e w2 ⟨v2, rfl, o2, b2⟩
  obtain ⟨A2, c2, rfl, s2⟩ := HSF.out _ _ _ o2
  have HS1b := Lib.hid (HS1.out.below b2)
  have HS2 := Lib.hid s2
  have HB2 := Lib.hid (HB1.out.trans (b2.mono HB1.out.size))
  clear o2 s2 b2 HS1 HB1
  go_wp2_with fail
  refine (HCL.out _).mono ?_
  rintro e w3 ⟨v3, rfl, o3, b3⟩
  obtain ⟨A3, c3, rfl, s3⟩ := HSL.out _ _ _ o3
  have HS1c := Lib.hid (HS1b.out.below b3)
  have HS2c := Lib.hid (HS2.out.below b3)
  have HS3 := Lib.hid s3
  have HB3 := Lib.hid (HB2.out.trans (b3.mono HB2.out.size))
  clear o3 s3 b3 HS1b HS2 HB2
  go_wp2_with fail
  refine (HCRL.out _).mono ?_
  rintro e w4 ⟨v4, rfl, o4, b4⟩
  obtain ⟨A4, c4, rfl, s4⟩ := HSL.out _ _ _ o4
  have HS1d := Lib.hid (HS1c.out.below b4)
  have HS2d := Lib.hid (HS2c.out.below b4)
  have HS3d := Lib.hid (HS3.out.below b4)
  have HS4 := Lib.hid s4
  have HB4 := Lib.hid (HB3.out.trans (b4.mono HB3.out.size))
  clear o4 s4 b4 HS1c HS2c HS3 HB3
  go_wp2_with fail
  refine (same_strs _ _ _ _ _ _ HS1d.out HS2d.out).mono ?_
  rintro e w5 ⟨rfl, n5, rfl⟩
  have HS3e := Lib.hid (HS3d.out.drewN n5)
  have HS4e := Lib.hid (HS4.out.drewN n5)
  have HB5 := Lib.hid (below_drewN HB4.out n5)
  generalize w4.drewN n5 = w5 at *
  clear HS1d HS2d HS3d HS4 HB4
  go_wp2_with fail
  refine (same_strs _ _ _ _ _ _ HS3e.out HS4e.out).mono ?_
  rintro e w6 ⟨rfl, n6, rfl⟩
  have HB6 := Lib.hid (below_drewN HB5.out n6)
  generalize w5.drewN n6 = w6 at *
  clear HS3e HS4e HB5
  go_wp2_with fail
  refine (join_any A ls cap _ (HI.out.below HB6.out) (by omega)).mono ?_
  rintro e w7 ⟨rfl, b7⟩
  have HB7 := Lib.hid (HB6.out.trans (b7.mono HB6.out.size))
  clear b7 HB6
  go_wp2_with fail
  refine (rjoin_any A ls cap _ (HI.out.below HB7.out) (by omega)).mono ?_
  rintro e w8 ⟨rfl, rfl⟩
  go_wp2_with fail
  refine (goes3_any _).mono ?_
  rintro e w8 ⟨rfl, b8⟩
  have HB8 := Lib.hid (HB7.out.trans (b8.mono HB7.out.size))
  clear b8 HB7
  go_wp2_with fail
  go_ret
  exact ⟨rfl, HB8.out⟩
end Go.Proofs.Ytegipokbbmnahaa.wordsCuts
