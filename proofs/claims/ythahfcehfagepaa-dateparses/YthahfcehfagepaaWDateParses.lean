import Derived.Test.YthahfcehfagepaaDateJ
namespace Go.Proofs.Ythahfcehfagepaa.dateParses
open Go.RowKit
set_option linter.unusedVariables false

set_option maxHeartbeats 1000000 in
theorem walk (s : ByteArray) (w : World) (hs : s.size ≤ 140737488351232) :
    Calls Try.prog 5 #[.string s] w fun e w' => e = .returned (.bool true) ∧ Below w.heap.size w w' := by
  have H1 := Lib.hid (fun ww => parse_any s ww (by omega)); have H2 := Lib.hid (fun ww => rparse_any s ww (by omega))
  by_cases he : DM.parE (L s) = 0
  · obtain ⟨hd, ht⟩ := DM.par_back he
    have C3 := fun ww => print_any _ _ _ _ ww hd
    rw [ht, S_L] at C3
    have H3 := Lib.hid C3
    rw [he] at H1 H2
    generalize DM.parN (L s) = rn at *
    clear C3 hd ht he
    go_enter Try.func5, Try.ntmps5
    go_wp2_with fail
    refine (H1.out _).mono ?_
    rintro e w1 ⟨rfl, n1, rfl⟩
    go_wp2_with fail
    refine (H2.out _).mono ?_
    rintro e w2 ⟨rfl, n2, rfl⟩
    have HB := Lib.hid (below_drewN (below_drewN (Below.refl w.heap.size w) n1) n2)
    generalize hw2 : (w.drewN n1).drewN n2 = w2 at *
    clear hw2
    go_wp2_with fail
    refine (H3.out _).mono ?_
    rintro e w3 ⟨rfl, b3⟩
    have HB3 := Lib.hid (HB.out.trans (b3.mono HB.out.size))
    clear b3 HB
    go_wp2_with fail
    refine (goes5_any _).mono ?_
    rintro e w4 ⟨rfl, b4⟩
    have HB4 := Lib.hid (HB3.out.trans (b4.mono HB3.out.size))
    clear b4 HB3
    go_wp2
    go_ret
    exact ⟨rfl, HB4.out⟩
  · generalize DM.parN (L s) = rn at *
    generalize DM.parE (L s) = re at *
    have hb : (re != 0) = true := by simpa using he
    clear he
    go_enter Try.func5, Try.ntmps5
    go_wp2_with fail
    refine (H1.out _).mono ?_
    rintro e w1 ⟨rfl, n1, rfl⟩
    go_wp2_with fail
    refine (H2.out _).mono ?_
    rintro e w2 ⟨rfl, n2, rfl⟩
    have HB := Lib.hid (below_drewN (below_drewN (Below.refl w.heap.size w) n1) n2)
    generalize hw2 : (w.drewN n1).drewN n2 = w2 at *
    clear hw2
    go_wp2_with fail
    refine (goes5_any _).mono ?_
    rintro e w4 ⟨rfl, b4⟩
    have HB4 := Lib.hid (HB.out.trans (b4.mono HB.out.size))
    clear b4 HB
    go_wp2
    go_ret
    exact ⟨rfl, HB4.out⟩
end Go.Proofs.Ythahfcehfagepaa.dateParses
