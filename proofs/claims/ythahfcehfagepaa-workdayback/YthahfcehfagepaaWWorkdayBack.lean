import Derived.Test.YthahfcehfagepaaWorkI
import Derived.Test.YthahfcehfagepaaWorkMath4
namespace Go.Proofs.Ythahfcehfagepaa.workdayBack
open Go.RowKit
set_option linter.unusedVariables false

set_option maxHeartbeats 4000000 in
set_option maxRecDepth 100000 in
theorem walk (A : Option Addr) (cap : Nat) (zs : List Int) (day n : Int) (w : World) (hI : Ints w A zs) (w1 : -9223372036854775808 ≤ day ∧ day ≤ 9223372036854775807) (w2 : 0 ≤ n ∧ n ≤ 255) :
    Calls Try.prog 12 #[.slice A zs.length cap, .int .i64 day, .int .u8 n] w fun e w' => e = .returned (.bool true) ∧ Below w.heap.size w w' := by
  obtain ⟨n0, n1⟩ := w2
  have C1 := Lib.hid (fun ww (h : Ints ww A zs) => works_any A zs cap day ww h)
  by_cases hc : KM.cdE zs day = 0
  · rw [KM.wkN_ok hc, hc] at C1
    cases hw : KM.works zs day
    · rw [hw] at C1
      have HI := Lib.hid hI
      clear hI hc hw
      go_enter Try.func12, Try.ntmps12
      go_wp2_with fail
      refine (C1.out _ HI.out).mono ?_
      rintro e w1 ⟨rfl, rfl⟩
      go_wp2_with fail
      refine (goes6_any _).mono ?_
      rintro e w1 ⟨rfl, b1⟩
      go_wp2
      go_ret
      exact ⟨rfl, b1⟩
    · rw [hw] at C1
      have C2 := Lib.hid (fun ww (h : Ints ww A zs) => next_any A zs cap day ww h)
      have C3 := Lib.hid (fun ww (h : Ints ww A zs) => before_any A zs cap (KM.adN zs day 1) ww h)
      have C4 := Lib.hid (fun ww (h : Ints ww A zs) => add6_any A zs cap day n ww h (by omega) (by omega))
      have C5 := Lib.hid (fun ww (h : Ints ww A zs) => add6_any A zs cap (KM.adN zs day n) (-n) ww h (by omega) (by omega))
      have t1 := @KM.add_there zs day 1 hc hw (by omega)
      have t2 := @KM.add_there zs day n hc hw n0
      generalize KM.adN zs (KM.adN zs day 1) (-1) = b at *
      generalize KM.adE zs (KM.adN zs day 1) (-1) = g at *
      generalize KM.adN zs (KM.adN zs day n) (-n) = d at *
      generalize KM.adE zs (KM.adN zs day n) (-n) = i at *
      generalize KM.adN zs day 1 = a at *
      generalize KM.adE zs day 1 = f at *
      generalize KM.adN zs day n = c at *
      generalize KM.adE zs day n = h at *
      have HI := Lib.hid hI
      clear hI hc hw
      have s1 : (f ≠ 0) ∨ (f = 0 ∧ b = day ∧ g = 0) := by
        by_cases e : f = 0
        · exact .inr ⟨e, t1 e⟩
        · exact .inl e
      have s2 : (h ≠ 0) ∨ (h = 0 ∧ d = day ∧ i = 0) := by
        by_cases e : h = 0
        · exact .inr ⟨e, t2 e⟩
        · exact .inl e
      clear t1 t2
      rcases s1 with s1 | ⟨rfl, rfl, rfl⟩
      · have hb1 := bne0 s1
        clear s1
        rcases s2 with s2 | ⟨rfl, rfl, rfl⟩
        · have hb2 := bne0 s2
          clear s2
          go_enter Try.func12, Try.ntmps12
          go_wp2_with fail
          refine (C1.out _ HI.out).mono ?_
          rintro e w1 ⟨rfl, rfl⟩
          go_wp2_with fail
          refine (C2.out _ HI.out).mono ?_
          rintro e w1 ⟨rfl, b1⟩
          have B1 := Lib.hid b1
          clear b1
          go_wp2_with fail
          refine (C3.out _ (HI.out.below B1.out)).mono ?_
          rintro e w2 ⟨rfl, b2⟩
          have B2 := Lib.hid (B1.out.trans (b2.mono B1.out.size))
          clear b2 B1
          go_wp2_with fail
          refine (C4.out _ (HI.out.below B2.out)).mono ?_
          rintro e w3 ⟨rfl, b3⟩
          have B3 := Lib.hid (B2.out.trans (b3.mono B2.out.size))
          clear b3 B2
          go_wp2_with fail
          refine (C5.out _ (HI.out.below B3.out)).mono ?_
          rintro e w4 ⟨rfl, b4⟩
          have B4 := Lib.hid (B3.out.trans (b4.mono B3.out.size))
          clear b4 B3
          go_wp2_with fail
          refine (goes6_any _).mono ?_
          rintro e w5 ⟨rfl, b5⟩
          have B5 := Lib.hid (B4.out.trans (b5.mono B4.out.size))
          clear b5 B4
          go_wp2
          go_ret
          exact ⟨rfl, B5.out⟩
        · go_enter Try.func12, Try.ntmps12
          go_wp2_with fail
          refine (C1.out _ HI.out).mono ?_
          rintro e w1 ⟨rfl, rfl⟩
          go_wp2_with fail
          refine (C2.out _ HI.out).mono ?_
          rintro e w1 ⟨rfl, b1⟩
          have B1 := Lib.hid b1
          clear b1
          go_wp2_with fail
          refine (C3.out _ (HI.out.below B1.out)).mono ?_
          rintro e w2 ⟨rfl, b2⟩
          have B2 := Lib.hid (B1.out.trans (b2.mono B1.out.size))
          clear b2 B1
          go_wp2_with fail
          refine (C4.out _ (HI.out.below B2.out)).mono ?_
          rintro e w3 ⟨rfl, b3⟩
          have B3 := Lib.hid (B2.out.trans (b3.mono B2.out.size))
          clear b3 B2
          go_wp2_with fail
          refine (C5.out _ (HI.out.below B3.out)).mono ?_
          rintro e w4 ⟨rfl, b4⟩
          have B4 := Lib.hid (B3.out.trans (b4.mono B3.out.size))
          clear b4 B3
          go_wp2_with fail
          refine (goes6_any _).mono ?_
          rintro e w5 ⟨rfl, b5⟩
          have B5 := Lib.hid (B4.out.trans (b5.mono B4.out.size))
          clear b5 B4
          go_wp2
          go_ret
          exact ⟨rfl, B5.out⟩
      · rcases s2 with s2 | ⟨rfl, rfl, rfl⟩
        · have hb2 := bne0 s2
          clear s2
          go_enter Try.func12, Try.ntmps12
          go_wp2_with fail
          refine (C1.out _ HI.out).mono ?_
          rintro e w1 ⟨rfl, rfl⟩
          go_wp2_with fail
          refine (C2.out _ HI.out).mono ?_
          rintro e w1 ⟨rfl, b1⟩
          have B1 := Lib.hid b1
          clear b1
          go_wp2_with fail
          refine (C3.out _ (HI.out.below B1.out)).mono ?_
          rintro e w2 ⟨rfl, b2⟩
          have B2 := Lib.hid (B1.out.trans (b2.mono B1.out.size))
          clear b2 B1
          go_wp2_with fail
          refine (C4.out _ (HI.out.below B2.out)).mono ?_
          rintro e w3 ⟨rfl, b3⟩
          have B3 := Lib.hid (B2.out.trans (b3.mono B2.out.size))
          clear b3 B2
          go_wp2_with fail
          refine (C5.out _ (HI.out.below B3.out)).mono ?_
          rintro e w4 ⟨rfl, b4⟩
          have B4 := Lib.hid (B3.out.trans (b4.mono B3.out.size))
          clear b4 B3
          go_wp2_with fail
          refine (goes6_any _).mono ?_
          rintro e w5 ⟨rfl, b5⟩
          have B5 := Lib.hid (B4.out.trans (b5.mono B4.out.size))
          clear b5 B4
          go_wp2
          go_ret
          exact ⟨rfl, B5.out⟩
        · go_enter Try.func12, Try.ntmps12
          go_wp2_with fail
          refine (C1.out _ HI.out).mono ?_
          rintro e w1 ⟨rfl, rfl⟩
          go_wp2_with fail
          refine (C2.out _ HI.out).mono ?_
          rintro e w1 ⟨rfl, b1⟩
          have B1 := Lib.hid b1
          clear b1
          go_wp2_with fail
          refine (C3.out _ (HI.out.below B1.out)).mono ?_
          rintro e w2 ⟨rfl, b2⟩
          have B2 := Lib.hid (B1.out.trans (b2.mono B1.out.size))
          clear b2 B1
          go_wp2_with fail
          refine (C4.out _ (HI.out.below B2.out)).mono ?_
          rintro e w3 ⟨rfl, b3⟩
          have B3 := Lib.hid (B2.out.trans (b3.mono B2.out.size))
          clear b3 B2
          go_wp2_with fail
          refine (C5.out _ (HI.out.below B3.out)).mono ?_
          rintro e w4 ⟨rfl, b4⟩
          have B4 := Lib.hid (B3.out.trans (b4.mono B3.out.size))
          clear b4 B3
          go_wp2_with fail
          refine (goes6_any _).mono ?_
          rintro e w5 ⟨rfl, b5⟩
          have B5 := Lib.hid (B4.out.trans (b5.mono B4.out.size))
          clear b5 B4
          go_wp2
          go_ret
          exact ⟨rfl, B5.out⟩
  · rw [KM.wkN_no hc] at C1
    generalize KM.cdE zs day = r at *
    have hb := bne0 hc
    have hb2 : (r == 0) = false := beq_f hc
    have HI := Lib.hid hI
    clear hI hc
    go_enter Try.func12, Try.ntmps12
    go_wp2_with fail
    refine (C1.out _ HI.out).mono ?_
    rintro e w1 ⟨rfl, rfl⟩
    go_wp2_with fail
    refine (goes6_any _).mono ?_
    rintro e w1 ⟨rfl, b1⟩
    go_wp2
    go_ret
    exact ⟨rfl, b1⟩
end Go.Proofs.Ythahfcehfagepaa.workdayBack
