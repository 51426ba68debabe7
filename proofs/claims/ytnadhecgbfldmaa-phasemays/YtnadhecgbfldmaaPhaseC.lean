/- Contracts of layer 7: names. -/
import Derived.Test.YtnadhecgbfldmaaPhaseA
import Derived.Test.YtnadhecgbfldmaaStrEq
namespace Go.Proofs.Ytnadhecgbfldmaa
open Go.RowKit
set_option linter.unusedVariables false

theorem pname_any (p : Int) (w : World) :
    Calls Try.prog 27 #[.int .i64 p] w fun e w' => e = .returned (.string (PM.nameS p)) ∧ w = w' := by
  rcases PM.seven p with rfl | rfl | rfl | rfl | rfl | rfl | hp
  case inr.inr.inr.inr.inr.inr =>
    rw [PM.name_no hp]
    have c1 : (p == 1) = false := by simp; omega
    have c2 : (p == 2) = false := by simp; omega
    have c3 : (p == 3) = false := by simp; omega
    have c4 : (p == 4) = false := by simp; omega
    have c5 : (p == 5) = false := by simp; omega
    have c6 : (p == 6) = false := by simp; omega
    clear hp
    go_enter Try.func27, Try.ntmps27
    go_wp2
    go_ret
    exact ⟨rfl, rfl⟩
  all_goals
    go_enter Try.func27, Try.ntmps27
    go_wp2
    go_ret
    exact ⟨rfl, rfl⟩

theorem rpname_any (p : Int) (w : World) :
    Calls Try.prog 28 #[.int .i64 p] w fun e w' => e = .returned (.string (PM.nameS p)) ∧ Below w.heap.size w w' := by
  cases h : PM.right p
  · rw [PM.name_no (PM.right_false.1 h)]
    go_enter Try.func28, Try.ntmps28
    go_wp2_with (go_at_call 16; refine (rright_any _ _).mono ?_; rintro e w' ⟨rfl, rfl⟩)
    go_ret
    exact ⟨rfl, (Below.refl _ w).alloc (Nat.le_refl _) _⟩
  · obtain ⟨h1, h2⟩ := PM.right_true.1 h
    have hp : p = 1 ∨ p = 2 ∨ p = 3 ∨ p = 4 ∨ p = 5 ∨ p = 6 := by omega
    clear h1 h2
    rcases hp with rfl | rfl | rfl | rfl | rfl | rfl
    all_goals
      go_enter Try.func28, Try.ntmps28
      go_wp2_with (go_at_call 16; refine (rright_any _ _).mono ?_; rintro e w' ⟨rfl, rfl⟩)
      go_ret
      exact ⟨rfl, (Below.refl _ w).alloc (Nat.le_refl _) _⟩

set_option maxHeartbeats 1000000 in
theorem pof_any (s : ByteArray) (w : World) :
    Calls Try.prog 25 #[.string s] w fun e w' => e = .returned (.tuple #[.int .i64 (PM.ofN s), .bool (PM.ofB s)]) ∧ w = w' := by
  have HY := Lib.hid (fun (k : Nat) => @PM.of_found s k)
  have HZ := Lib.hid (@PM.of_none s)
  generalize PM.ofN s = x at *
  generalize PM.ofB s = y at *
  go_enter Try.func25, Try.ntmps25
  go_wp2_with fail
  go_loop [4] (fun i => ∃ k : Nat, 1 ≤ k ∧ k ≤ 7 ∧ i = .int .i64 k ∧ Hid (∀ j : Nat, 1 ≤ j → j < k → PM.nameS j ≠ s)) (fun i => 7 - (intOf i).toNat)
  case atStart => exact ⟨1, by omega, by omega, rfl, Lib.hid (fun j h1 h2 => by omega)⟩
  case round =>
    obtain ⟨k, k1, k7, rfl, HN⟩ := hrel
    by_cases hlt : k ≤ 6
    · by_cases he : PM.nameS k = s
      · have HE := Lib.hid (HY.out k k1 hlt HN.out he)
        have hs := str_t he
        clear he
        go_wp2_with (go_at_call 27; refine (pname_any _ _).mono ?_; rintro e w' ⟨rfl, rfl⟩)
        go_ret2
        exact ⟨by rw [HE.out.1, HE.out.2]; rfl, rfl⟩
      · have hs := str_f he
        have HN2 : Hid (∀ j : Nat, 1 ≤ j → j < k + 1 → PM.nameS j ≠ s) := Lib.hid (fun j h1 h2 => by
          rcases Nat.lt_or_ge j k with g | g
          · exact HN.out j h1 g
          · obtain rfl : j = k := by omega
            exact he)
        clear he
        go_wp2_with (go_at_call 27; refine (pname_any _ _).mono ?_; rintro e w' ⟨rfl, rfl⟩)
        go_round
        case rel => exact ⟨k + 1, by omega, by omega, by go_num, HN2⟩
        case measure => simp [intOf]; omega
    · obtain rfl : k = 7 := by omega
      have HE := Lib.hid (HZ.out HN.out)
      go_wp2_with fail
      go_ret2
      exact ⟨by rw [HE.out.1, HE.out.2]; rfl, rfl⟩

set_option maxHeartbeats 1000000 in
theorem rpof_any (s : ByteArray) (w : World) :
    Calls Try.prog 26 #[.string s] w fun e w' => e = .returned (.tuple #[.int .i64 (PM.ofN s), .bool (PM.ofB s)]) ∧ Below w.heap.size w w' := by
  have HY := Lib.hid (fun (k : Nat) => @PM.of_found s k)
  have HZ := Lib.hid (@PM.of_none s)
  generalize PM.ofN s = x at *
  generalize PM.ofB s = y at *
  go_enter Try.func26, Try.ntmps26
  go_wp2_with fail
  go_loopw [4] (fun i wr => ∃ k : Nat, 1 ≤ k ∧ k ≤ 7 ∧ i = .int .i64 k ∧ Hid (∀ j : Nat, 1 ≤ j → j < k → PM.nameS j ≠ s) ∧ Hid (Below w.heap.size w wr)) (fun i _ => 7 - (intOf i).toNat)
  case atStart => exact ⟨1, by omega, by omega, rfl, Lib.hid (fun j h1 h2 => by omega), Lib.hid (Below.refl _ _)⟩
  case round =>
    obtain ⟨k, k1, k7, rfl, HN, HB⟩ := hrel
    by_cases hlt : k ≤ 6
    · by_cases he : PM.nameS k = s
      · have HE := Lib.hid (HY.out k k1 hlt HN.out he)
        have hs := str_t he
        clear he
        go_wp2_with fail
        refine (rpname_any _ _).mono ?_
        rintro e w2 ⟨rfl, b2⟩
        have HB2 := Lib.hid (HB.out.trans (b2.mono HB.out.size))
        clear b2
        go_wp2_with fail
        go_ret2
        exact ⟨by rw [HE.out.1, HE.out.2]; rfl, HB2.out⟩
      · have hs := str_f he
        have HN2 : Hid (∀ j : Nat, 1 ≤ j → j < k + 1 → PM.nameS j ≠ s) := Lib.hid (fun j h1 h2 => by
          rcases Nat.lt_or_ge j k with g | g
          · exact HN.out j h1 g
          · obtain rfl : j = k := by omega
            exact he)
        clear he
        go_wp2_with fail
        refine (rpname_any _ _).mono ?_
        rintro e w2 ⟨rfl, b2⟩
        have HB2 := Lib.hid (HB.out.trans (b2.mono HB.out.size))
        clear b2
        go_wp2_with fail
        go_roundw
        case rel => exact ⟨k + 1, by omega, by omega, by go_num, HN2, HB2⟩
        case measure => simp [intOf]; omega
    · obtain rfl : k = 7 := by omega
      have HE := Lib.hid (HZ.out HN.out)
      go_wp2_with fail
      go_ret2
      exact ⟨by rw [HE.out.1, HE.out.2]; rfl, HB.out⟩
end Go.Proofs.Ytnadhecgbfldmaa
