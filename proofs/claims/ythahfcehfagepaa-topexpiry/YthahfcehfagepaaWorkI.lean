/- Contracts of layer 6: the page's examples. -/
import Derived.Test.YthahfcehfagepaaWorkF
import Derived.Test.YthahfcehfagepaaWorkH
namespace Go.Proofs.Ythahfcehfagepaa
open Go.RowKit
set_option linter.unusedVariables false

theorem ex_next : KM.adN [] 0 1 = 2 ∧ KM.adE [] 0 1 = 0 := by decide +kernel
theorem ex_next2 : KM.adN [2] 0 1 = 3 ∧ KM.adE [2] 0 1 = 0 := by decide +kernel
theorem ex_before : KM.adN [] 2 (-1) = 0 ∧ KM.adE [] 2 (-1) = 15 := by decide +kernel
theorem ex_add : KM.adN [] 2 5 = 9 ∧ KM.adE [] 2 5 = 0 := by decide +kernel
theorem ex_count : KM.coN [] 0 9 = 6 ∧ KM.coE [] 0 9 = 0 := by decide +kernel
theorem ex_expiry : KM.exN [20] 2000 1 = 19 ∧ KM.exE [20] 2000 1 = 0 := by decide +kernel
theorem ex_third : KM.exN [] 2000 1 = 20 ∧ KM.exE [] 2000 1 = 0 := by decide +kernel
theorem ex_works : KM.wkN [] 20 = true ∧ KM.cdE [] 20 = 0 := by decide +kernel
theorem ex_friday : DM.weekday 20 = 5 := by decide +kernel

theorem one_int (w : World) (x : Int) (h1 : -9223372036854775808 ≤ x) (h2 : x ≤ 9223372036854775807) : Ints (w.alloc (.cells #[.int .i64 x] 3)) (some ⟨w.heap.size, 0, none⟩) [x] := by
  refine ⟨by simp [maxLen], by simp; omega, .inr ⟨w.heap.size, 0, rfl, by simp, ?_⟩⟩
  intro i hi
  have : i = 0 := by simp at hi; exact hi
  subst this
  simp

set_option maxHeartbeats 2000000 in
set_option maxRecDepth 100000 in
theorem goes6_any (w : World) : Calls Try.prog 34 #[] w fun e w' => e = .returned (.bool true) ∧ Below w.heap.size w w' := by
  have C1 := fun ww => next_any none [] 0 0 ww (Ints.nil _ _)
  rw [ex_next.1, ex_next.2] at C1
  have C2 := fun ww => next_any (some ⟨ww.heap.size, 0, none⟩) [2] 1 0 (ww.alloc (.cells #[.int .i64 2] 3)) (one_int ww 2 (by omega) (by omega))
  rw [ex_next2.1, ex_next2.2] at C2
  have C3 := fun ww => before_any none [] 0 2 ww (Ints.nil _ _)
  rw [ex_before.1, ex_before.2] at C3
  have C4 := fun ww => add6_any none [] 0 2 5 ww (Ints.nil _ _) (by omega) (by omega)
  rw [ex_add.1, ex_add.2] at C4
  have C5 := fun ww => count_any none [] 0 0 9 ww (Ints.nil _ _)
  rw [ex_count.1, ex_count.2] at C5
  have C6 := fun ww => expiry_any (some ⟨ww.heap.size, 0, none⟩) [20] 1 2000 1 (ww.alloc (.cells #[.int .i64 20] 3)) (one_int ww 20 (by omega) (by omega))
  rw [ex_expiry.1, ex_expiry.2] at C6
  have H1 := Lib.hid C1; have H2 := Lib.hid C2; have H3 := Lib.hid C3; have H4 := Lib.hid C4; have H5 := Lib.hid C5; have H6 := Lib.hid C6
  clear C1 C2 C3 C4 C5 C6
  go_enter Try.func34, Try.ntmps34
  go_wp2_with fail
  refine (H1.out _).mono ?_
  rintro e w1 ⟨rfl, b1⟩
  have HB1 := Lib.hid b1
  clear b1
  go_wp2_with fail
  refine (H2.out w1).mono ?_
  rintro e w2 ⟨rfl, b2⟩
  have HB2 := Lib.hid ((HB1.out.alloc HB1.out.size _).trans (b2.mono (by have := HB1.out.size; simp; omega)))
  clear b2 HB1
  go_wp2_with fail
  refine (H3.out _).mono ?_
  rintro e w3 ⟨rfl, b3⟩
  have HB3 := Lib.hid (HB2.out.trans (b3.mono HB2.out.size))
  clear b3 HB2
  go_wp2_with fail
  refine (H4.out _).mono ?_
  rintro e w4 ⟨rfl, b4⟩
  have HB4 := Lib.hid (HB3.out.trans (b4.mono HB3.out.size))
  clear b4 HB3
  go_wp2_with fail
  refine (H5.out _).mono ?_
  rintro e w5 ⟨rfl, rfl⟩
  go_wp2_with fail
  refine (H6.out w4).mono ?_
  rintro e w6 ⟨rfl, b6⟩
  have HB6 := Lib.hid ((HB4.out.alloc HB4.out.size _).trans (b6.mono (by have := HB4.out.size; simp; omega)))
  clear b6 HB4
  go_wp2
  go_ret
  exact ⟨rfl, HB6.out⟩

def fewB (n : Nat) : Bool := decide (n ≤ 40) || decide (1024 < n)
theorem few_any (A : Option Addr) (n cap : Nat) (w : World) (hn : n ≤ 9223372036854775807) :
    Calls Try.prog 33 #[.slice A n cap] w fun e w' => e = .returned (.bool (fewB n)) ∧ w = w' := by
  unfold fewB
  by_cases h1 : n ≤ 40
  · rw [decide_eq_true h1, Bool.true_or]
    go_enter Try.func33, Try.ntmps33
    go_wp2
    go_ret
    exact ⟨rfl, rfl⟩
  · rw [decide_eq_false h1, Bool.false_or]
    by_cases h2 : 1024 < n
    · rw [decide_eq_true h2]
      go_enter Try.func33, Try.ntmps33
      go_wp2
      go_ret
      exact ⟨by simp; omega, rfl⟩
    · rw [decide_eq_false h2]
      go_enter Try.func33, Try.ntmps33
      go_wp2
      go_ret
      exact ⟨by simp; omega, rfl⟩

set_option maxHeartbeats 1000000 in
theorem goes03_any (w : World) : Calls Try.prog 51 #[] w fun e w' => e = .returned (.bool true) ∧ Below w.heap.size w w' := by
  have C1 := fun ww => expiry_any none [] 0 2000 1 ww (Ints.nil _ _)
  rw [ex_third.1, ex_third.2] at C1
  have C2 := fun ww => works_any none [] 0 20 ww (Ints.nil _ _)
  rw [ex_works.1, ex_works.2] at C2
  have C3 := fun ww => weekday_any 20 ww
  rw [ex_friday] at C3
  have H1 := Lib.hid C1; have H2 := Lib.hid C2; have H3 := Lib.hid C3
  clear C1 C2 C3
  go_enter Try.func51, Try.ntmps51
  go_wp2_with fail
  refine (H1.out _).mono ?_
  rintro e w1 ⟨rfl, b1⟩
  go_wp2_with fail
  refine (H2.out _).mono ?_
  rintro e w2 ⟨rfl, rfl⟩
  go_wp2_with fail
  refine (H3.out _).mono ?_
  rintro e w2 ⟨rfl, rfl⟩
  go_wp2
  go_ret
  exact ⟨rfl, b1⟩
end Go.Proofs.Ythahfcehfagepaa
