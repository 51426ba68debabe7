import Derived.Test.YtegipokbbmnahaaWordsN
import Derived.Test.YtegipokbbmnahaaOpen
namespace Go.Proofs.Ytegipokbbmnahaa.wordsReads
open Go.RowKit
set_option linter.unusedVariables false

set_option maxHeartbeats 1000000 in
theorem walk (s : ByteArray) (w : World) (hs : s.size ≤ 140737488351232) :
    Calls Try.prog 3 #[.string s] w fun e w' => e = .returned (.bool true) ∧ Below w.heap.size w w' := by
  have h1 : s.size ≤ 9223372036854775807 := by omega
  have h2 : s.size ≤ 140737488355328 := by omega
  have CI := fun ww => int_any s ww h1
  have CRI := fun ww => rint_any s ww h1
  have CC := fun ww => cents_any s ww h2
  have CRC := fun ww => rcents_any s ww h2
  have CN := fun ww => name_any s ww h1
  have CRN := fun ww => rname_any s ww h1
  generalize WM.intN (L s) = iN at *
  generalize WM.intE (L s) = iE at *
  generalize WM.centsN (L s) = cN at *
  generalize WM.centsE (L s) = cE at *
  generalize WM.name (L s) = nm at *
  have HCI := Lib.hid CI; have HCRI := Lib.hid CRI; have HCC := Lib.hid CC; have HCRC := Lib.hid CRC; have HCN := Lib.hid CN; have HCRN := Lib.hid CRN
  clear CI CRI CC CRC CN CRN
  go_enter Try.func3, Try.ntmps3
  go_wp2_with fail
  refine (HCI.out _).mono ?_
  rintro e w1 ⟨rfl, n1, rfl⟩
  have HB1 := Lib.hid (below_drewN (Below.refl w.heap.size w) n1)
  generalize w.drewN n1 = w1 at *
  go_wp2_with fail
  refine (HCRI.out _).mono ?_
  rintro e w2 ⟨rfl, rfl⟩
  go_wp2_with fail
  refine (HCC.out _).mono ?_
  rintro e w2 ⟨rfl, b2⟩
  have HB2 := Lib.hid (HB1.out.trans (b2.mono HB1.out.size))
  clear b2 HB1
  go_wp2_with fail
  refine (HCRC.out _).mono ?_
  rintro e w3 ⟨rfl, n3, rfl⟩
  have HB3 := Lib.hid (below_drewN HB2.out n3)
  generalize w2.drewN n3 = w3 at *
  clear HB2
  go_wp2_with fail
  refine (HCN.out _).mono ?_
  rintro e w4 ⟨rfl, rfl⟩
  go_wp2_with fail
  refine (HCRN.out _).mono ?_
  rintro e w4 ⟨rfl, rfl⟩
  go_wp2_with fail
  refine (goes3_any _).mono ?_
  rintro e w4 ⟨rfl, b4⟩
  have HB4 := Lib.hid (HB3.out.trans (b4.mono HB3.out.size))
  clear b4 HB3
  go_wp2_with fail
  go_ret
  exact ⟨rfl, HB4.out⟩
end Go.Proofs.Ytegipokbbmnahaa.wordsReads
