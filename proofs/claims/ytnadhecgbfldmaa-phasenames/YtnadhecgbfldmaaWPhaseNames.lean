import Derived.Test.YtnadhecgbfldmaaPhaseF
namespace Go.Proofs.Ytnadhecgbfldmaa.phaseNames
open Go.RowKit
set_option linter.unusedVariables false

set_option maxHeartbeats 1000000 in
theorem walk (p : Int) (s : ByteArray) (w : World) (hp : -9223372036854775808 ≤ p ∧ p ≤ 9223372036854775807) (hs : s.size ≤ 140737488351232) :
    Calls Try.prog 5 #[.int .i64 p, .string s] w fun e w' => e = .returned (.bool true) ∧ Below w.heap.size w w' := by
  have C1 := Lib.hid (fun ww => pof_any s ww)
  have C2 := Lib.hid (fun ww => rpof_any s ww)
  have C3 := Lib.hid (fun ww => pname_any p ww)
  have C4 := Lib.hid (fun ww => rpname_any p ww)
  generalize PM.ofN s = x at *
  generalize PM.ofB s = y at *
  generalize PM.nameS p = n at *
  clear hp hs
  have hn : (n.toList == n.toList) = true := str_t rfl
  go_enter Try.func5, Try.ntmps5
  go_wp2_with fail
  refine (C1.out _).mono ?_
  rintro e w1 ⟨rfl, rfl⟩
  go_wp2_with fail
  refine (C2.out _).mono ?_
  rintro e w1 ⟨rfl, b1⟩
  have HB1 := Lib.hid b1
  clear b1
  go_wp2_with fail
  refine (C3.out _).mono ?_
  rintro e w1' ⟨rfl, rfl⟩
  go_wp2_with fail
  refine (C4.out _).mono ?_
  rintro e w2 ⟨rfl, b2⟩
  have HB2 := Lib.hid (HB1.out.trans (b2.mono HB1.out.size))
  clear b2
  go_wp2_with fail
  refine (goes7_any _).mono ?_
  rintro e w3 ⟨rfl, hb⟩
  have HB3 := Lib.hid (HB2.out.trans (hb.mono HB2.out.size))
  clear hb
  go_wp2_with fail
  go_ret
  exact ⟨rfl, HB3.out⟩
end Go.Proofs.Ytnadhecgbfldmaa.phaseNames
