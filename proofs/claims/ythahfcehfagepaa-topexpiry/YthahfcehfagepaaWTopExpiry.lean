import Derived.Test.YthahfcehfagepaaWorkI
import Derived.Test.YthahfcehfagepaaWorkMath4
namespace Go.Proofs.Ythahfcehfagepaa.topExpiry
open Go.RowKit
set_option linter.unusedVariables false

set_option maxHeartbeats 4000000 in
set_option maxRecDepth 100000 in
theorem walk (A : Option Addr) (cap : Nat) (zs : List Int) (y m : Int) (w : World) (hI : Ints w A zs) (w1 : -9223372036854775808 ≤ y ∧ y ≤ 9223372036854775807) (w2 : -9223372036854775808 ≤ m ∧ m ≤ 9223372036854775807) :
    Calls Try.prog 14 #[.slice A zs.length cap, .int .i64 y, .int .i64 m] w fun e w' => e = .returned (.bool true) ∧ Below w.heap.size w w' := by
  have hlen := hI.len
  by_cases hl : 60 < zs.length
  · clear hI
    go_enter Try.func14, Try.ntmps14
    go_wp2_with fail
    refine (goes03_any _).mono ?_
    rintro e w1 ⟨rfl, b1⟩
    go_wp2
    go_ret
    exact ⟨rfl, b1⟩
  · have C1 := Lib.hid (fun ww (h : Ints ww A zs) => expiry_any A zs cap y m ww h)
    by_cases he : KM.exE zs y m = 0
    · obtain ⟨t1, t2, t3, t4, t5, t6, t7, t8, ⟨p1, p2, p3, p4⟩, t9⟩ := KM.top_ex he
      have C2 := Lib.hid (fun ww => nth_any y m 5 3 ww)
      have C3 := Lib.hid (fun ww (h : Ints ww A zs) => works_any A zs cap (KM.exN zs y m) ww h)
      have C4 := Lib.hid (fun ww (h : Ints ww A zs) => count_any A zs cap (KM.exN zs y m) (DM.nthN y m 5 3) ww h)
      have C5 : Hid (∀ (a b : Int) ww, a = y + m / 12 → b = m % 12 + 1 → Ints ww A zs → Calls Try.prog 49 #[.slice A zs.length cap, .int .i64 a, .int .i64 b] ww fun e w' => e = .returned (.tuple #[.int .i64 (KM.exN zs (y + m / 12) (m % 12 + 1)), .int .i64 (KM.exE zs (y + m / 12) (m % 12 + 1))]) ∧ Below ww.heap.size ww w') := Lib.hid (by
        rintro a b ww rfl rfl h; exact expiry_any A zs cap _ _ ww h)
      rw [he] at C1
      rw [t1] at C2
      rw [t2, t3] at C3
      rw [t4, t5] at C4
      generalize KM.exN zs (y + m / 12) (m % 12 + 1) = nx at *
      generalize KM.exE zs (y + m / 12) (m % 12 + 1) = ie at *
      generalize KM.exN zs y m = day at *
      generalize DM.nthN y m 5 3 = third at *
      have HI := Lib.hid hI
      clear hI he t1 t2 t3 t4 t5
      by_cases hie : ie = 0
      · have t10 := t9 hie
        subst hie
        clear t9
        go_enter Try.func14, Try.ntmps14
        go_wp2_with fail
        refine (C1.out _ HI.out).mono ?_
        rintro e w1 ⟨rfl, b1⟩
        have B1 := Lib.hid b1
        clear b1
        go_wp2_with fail
        refine (C2.out _).mono ?_
        rintro e w2 ⟨rfl, rfl⟩
        go_wp2_with fail
        refine (C3.out _ (HI.out.below B1.out)).mono ?_
        rintro e w2 ⟨rfl, rfl⟩
        go_wp2_with fail
        refine (C4.out _ (HI.out.below B1.out)).mono ?_
        rintro e w2 ⟨rfl, rfl⟩
        go_wp2_with fail
        refine (C5.out _ _ _ (by omega) (by omega) (HI.out.below B1.out)).mono ?_
        rintro e w2 ⟨rfl, b2⟩
        have B2 := Lib.hid (B1.out.trans (b2.mono B1.out.size))
        clear b2 B1
        go_wp2_with fail
        refine (goes03_any _).mono ?_
        rintro e w3 ⟨rfl, b3⟩
        have B3 := Lib.hid (B2.out.trans (b3.mono B2.out.size))
        clear b3 B2
        go_wp2
        go_ret
        exact ⟨rfl, B3.out⟩
      · have hb := bne0 hie
        clear t9 hie
        go_enter Try.func14, Try.ntmps14
        go_wp2_with fail
        refine (C1.out _ HI.out).mono ?_
        rintro e w1 ⟨rfl, b1⟩
        have B1 := Lib.hid b1
        clear b1
        go_wp2_with fail
        refine (C2.out _).mono ?_
        rintro e w2 ⟨rfl, rfl⟩
        go_wp2_with fail
        refine (C3.out _ (HI.out.below B1.out)).mono ?_
        rintro e w2 ⟨rfl, rfl⟩
        go_wp2_with fail
        refine (C4.out _ (HI.out.below B1.out)).mono ?_
        rintro e w2 ⟨rfl, rfl⟩
        go_wp2_with fail
        refine (C5.out _ _ _ (by omega) (by omega) (HI.out.below B1.out)).mono ?_
        rintro e w2 ⟨rfl, b2⟩
        have B2 := Lib.hid (B1.out.trans (b2.mono B1.out.size))
        clear b2 B1
        go_wp2_with fail
        refine (goes03_any _).mono ?_
        rintro e w3 ⟨rfl, b3⟩
        have B3 := Lib.hid (B2.out.trans (b3.mono B2.out.size))
        clear b3 B2
        go_wp2
        go_ret
        exact ⟨rfl, B3.out⟩
    · rw [KM.ex_err he] at C1
      generalize KM.exE zs y m = re at *
      have hb := bne0 he
      have HI := Lib.hid hI
      clear hI he
      go_enter Try.func14, Try.ntmps14
      go_wp2_with fail
      refine (C1.out _ HI.out).mono ?_
      rintro e w1 ⟨rfl, b1⟩
      have B1 := Lib.hid b1
      clear b1
      go_wp2_with fail
      refine (goes03_any _).mono ?_
      rintro e w3 ⟨rfl, b3⟩
      have B3 := Lib.hid (B1.out.trans (b3.mono B1.out.size))
      clear b3 B1
      go_wp2
      go_ret
      exact ⟨rfl, B3.out⟩
end Go.Proofs.Ythahfcehfagepaa.topExpiry
