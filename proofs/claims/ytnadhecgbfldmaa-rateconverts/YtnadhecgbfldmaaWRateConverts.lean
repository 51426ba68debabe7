import Derived.Test.YtnadhecgbfldmaaRateI
import Derived.Test.YtnadhecgbfldmaaArrs
namespace Go.Proofs.Ytnadhecgbfldmaa.rateConverts
open Go.RowKit Go.Recs
set_option linter.unusedVariables false

set_option maxHeartbeats 4000000 in
set_option maxRecDepth 100000 in
theorem walk (A : Option Addr) (cap : Nat) (l : List RM.Rate) (n a b mode : Int) (w : World) (hI : Rates w A l ∧ l.length ≤ cap) (hn : -9223372036854775808 ≤ n ∧ n ≤ 9223372036854775807)
    (hr : (-9223372036854775808 ≤ a ∧ a ≤ 9223372036854775807) ∧ (-9223372036854775808 ≤ b ∧ b ≤ 9223372036854775807) ∧ (-9223372036854775808 ≤ mode ∧ mode ≤ 9223372036854775807)) :
    Calls Try.prog 9 #[.slice A l.length cap, .int .i64 n, .agg #[.int .i64 a, .int .i64 b, .int .i64 mode]] w fun e w' => e = .returned (.bool true) ∧ Below w.heap.size w w' := by
  obtain ⟨hI, hcap⟩ := hI
  have C1 := Lib.hid (fun ww h => convert_any A l cap n a b mode ww h hcap)
  have C2 := Lib.hid (fun ww h => rconvert_any A l cap n a b mode ww h)
  have C3 := Lib.hid (fun ww h => base_any A l cap n a mode ww h hcap)
  have C4 := Lib.hid (fun ww h => rbase_any A l cap n a mode ww h)
  have C5 := Lib.hid (fun ww h => cross_any A l cap a b ww h hcap)
  have C6 := Lib.hid (fun ww h => rcross_any A l cap a b ww h)
  generalize RM.cvN l n a b mode = x1 at *
  generalize RM.cvE l n a b mode = y1 at *
  generalize RM.cvN l n a 0 mode = x2 at *
  generalize RM.cvE l n a 0 mode = y2 at *
  generalize RM.cvN l 1000000 a b 5 = x3 at *
  generalize RM.cvE l 1000000 a b 5 = y3 at *
  have hA := Arr3.new w a b mode
  have HB : Hid (Below w.heap.size w (w.alloc (.cells #[.int .i64 a, .int .i64 b, .int .i64 mode] 42))) := Lib.hid ((Below.refl _ _).alloc (Nat.le_refl _) _)
  have HI := Lib.hid (hI.below HB.out)
  have HA := Lib.hid hA
  clear hI hn hr
  obtain ⟨hlt, c0, c1, c2⟩ := hA
  go_enter Try.func9, Try.ntmps9
  go_wp2_with fail
  refine (C1.out _ HI.out).mono ?_
  rintro e w1 ⟨rfl, b1⟩
  have HA1 := Lib.hid (HA.out.below b1)
  have HB1 := Lib.hid (HB.out.trans (b1.mono HB.out.size))
  have HI1 := Lib.hid (HI.out.below b1)
  clear b1 c0 c1 c2 hlt HA HB HI
  obtain ⟨hlt, c0, c1, c2⟩ := HA1.out
  go_wp2_with fail
  refine (C2.out _ HI1.out).mono ?_
  rintro e w2 ⟨rfl, k2, hk2⟩
  have HA2 : Hid (Arr3 w2 w.heap.size a b mode) := Lib.hid (by rw [hk2]; exact HA1.out.drewN k2)
  have HB2 : Hid (Below w.heap.size w w2) := Lib.hid (by rw [hk2]; exact below_drewN HB1.out k2)
  have HI2 : Hid (Rates w2 A l) := Lib.hid (by rw [hk2]; exact HI1.out.drewN k2)
  clear hk2 c0 c1 c2 hlt HA1 HB1 HI1
  obtain ⟨hlt, c0, c1, c2⟩ := HA2.out
  go_wp2_with fail
  refine (C3.out _ HI2.out).mono ?_
  rintro e w3 ⟨rfl, b3⟩
  have HA3 := Lib.hid (HA2.out.below b3)
  have HB3 := Lib.hid (HB2.out.trans (b3.mono HB2.out.size))
  have HI3 := Lib.hid (HI2.out.below b3)
  clear b3 c0 c1 c2 hlt HA2 HB2 HI2
  obtain ⟨hlt, c0, c1, c2⟩ := HA3.out
  go_wp2_with fail
  refine (C4.out _ HI3.out).mono ?_
  rintro e w4 ⟨rfl, k4, hk4⟩
  have HA4 : Hid (Arr3 w4 w.heap.size a b mode) := Lib.hid (by rw [hk4]; exact HA3.out.drewN k4)
  have HB4 : Hid (Below w.heap.size w w4) := Lib.hid (by rw [hk4]; exact below_drewN HB3.out k4)
  have HI4 : Hid (Rates w4 A l) := Lib.hid (by rw [hk4]; exact HI3.out.drewN k4)
  clear hk4 c0 c1 c2 hlt HA3 HB3 HI3
  obtain ⟨hlt, c0, c1, c2⟩ := HA4.out
  go_wp2_with fail
  refine (C5.out _ HI4.out).mono ?_
  rintro e w5 ⟨rfl, b5⟩
  have HA5 := Lib.hid (HA4.out.below b5)
  have HB5 := Lib.hid (HB4.out.trans (b5.mono HB4.out.size))
  have HI5 := Lib.hid (HI4.out.below b5)
  clear b5 c0 c1 c2 hlt HA4 HB4 HI4
  obtain ⟨hlt, c0, c1, c2⟩ := HA5.out
  go_wp2_with fail
  refine (C6.out _ HI5.out).mono ?_
  rintro e w6 ⟨rfl, k6, hk6⟩
  have HB6 : Hid (Below w.heap.size w w6) := Lib.hid (by rw [hk6]; exact below_drewN HB5.out k6)
  clear hk6 c0 c1 c2 hlt HA5 HB5 HI5
  go_wp2_with fail
  refine (goes8_any _).mono ?_
  rintro e w7 ⟨rfl, b7⟩
  have HB7 := Lib.hid (HB6.out.trans (b7.mono HB6.out.size))
  clear b7
  go_wp2_with fail
  go_ret
  exact ⟨rfl, HB7.out⟩
end Go.Proofs.Ytnadhecgbfldmaa.rateConverts
