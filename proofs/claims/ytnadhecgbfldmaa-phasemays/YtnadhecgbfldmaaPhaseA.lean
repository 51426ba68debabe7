/- Contracts of layer 7's functions that make no memory. -/
import Derived.Test.YtnadhecgbfldmaaOwn
import Derived.Test.YtnadhecgbfldmaaPhaseMath
import Derived.Laws.BitsAllLaws
import Derived.Laws.BitsLemmas
namespace Go.Proofs.Ytnadhecgbfldmaa
open Go.RowKit
set_option linter.unusedVariables false

theorem right_any (p : Int) (w : World) :
    Calls Try.prog 15 #[.int .i64 p] w fun e w' => e = .returned (.bool (PM.right p)) ∧ w = w' := by
  by_cases h1 : 1 ≤ p
  · by_cases h2 : p ≤ 6
    · rw [PM.right_true.2 ⟨h1, h2⟩]
      go_enter Try.func15, Try.ntmps15
      go_wp2
      go_ret
      exact ⟨rfl, rfl⟩
    · rw [PM.right_false.2 (by omega)]
      go_enter Try.func15, Try.ntmps15
      go_wp2
      go_ret
      exact ⟨rfl, rfl⟩
  · rw [PM.right_false.2 (by omega)]
    go_enter Try.func15, Try.ntmps15
    go_wp2
    go_ret
    exact ⟨rfl, rfl⟩

theorem rright_any (p : Int) (w : World) :
    Calls Try.prog 16 #[.int .i64 p] w fun e w' => e = .returned (.bool (PM.right p)) ∧ w = w' := by
  by_cases h1 : 1 ≤ p
  · by_cases h2 : p ≤ 6
    · rw [PM.right_true.2 ⟨h1, h2⟩]
      go_enter Try.func16, Try.ntmps16
      go_wp2
      go_ret
      exact ⟨rfl, rfl⟩
    · rw [PM.right_false.2 (by omega)]
      go_enter Try.func16, Try.ntmps16
      go_wp2
      go_ret
      exact ⟨rfl, rfl⟩
  · rw [PM.right_false.2 (by omega)]
    go_enter Try.func16, Try.ntmps16
    go_wp2
    go_ret
    exact ⟨rfl, rfl⟩

theorem ahead_any (a b : Int) (w : World) :
    Calls Try.prog 17 #[.int .i64 a, .int .i64 b] w fun e w' => e = .returned (.bool (PM.ahead a b)) ∧ w = w' := by
  cases ha : PM.right a
  · have e : PM.ahead a b = false := by simp [PM.ahead, ha]
    rw [e]; clear e
    go_enter Try.func17, Try.ntmps17
    go_wp2_with (go_at_call 15; refine (right_any _ _).mono ?_; rintro e w' ⟨rfl, rfl⟩)
    go_ret
    exact ⟨rfl, rfl⟩
  · cases hb : PM.right b
    · have e : PM.ahead a b = false := by simp [PM.ahead, hb]
      rw [e]; clear e
      go_enter Try.func17, Try.ntmps17
      go_wp2_with (go_at_call 15; refine (right_any _ _).mono ?_; rintro e w' ⟨rfl, rfl⟩)
      go_ret
      exact ⟨rfl, rfl⟩
    · have e : PM.ahead a b = decide (a < b) := by simp [PM.ahead, ha, hb]
      rw [e]; clear e
      go_enter Try.func17, Try.ntmps17
      go_wp2_with (go_at_call 15; refine (right_any _ _).mono ?_; rintro e w' ⟨rfl, rfl⟩)
      go_ret
      exact ⟨rfl, rfl⟩

theorem rahead_any (a b : Int) (w : World) :
    Calls Try.prog 18 #[.int .i64 a, .int .i64 b] w fun e w' => e = .returned (.bool (PM.ahead a b)) ∧ w = w' := by
  cases ha : PM.right a
  · have e : PM.ahead a b = false := by simp [PM.ahead, ha]
    rw [e]; clear e
    go_enter Try.func18, Try.ntmps18
    go_wp2_with (go_at_call 16; refine (rright_any _ _).mono ?_; rintro e w' ⟨rfl, rfl⟩)
    go_ret
    exact ⟨rfl, rfl⟩
  · cases hb : PM.right b
    · have e : PM.ahead a b = false := by simp [PM.ahead, hb]
      rw [e]; clear e
      go_enter Try.func18, Try.ntmps18
      go_wp2_with (go_at_call 16; refine (rright_any _ _).mono ?_; rintro e w' ⟨rfl, rfl⟩)
      go_ret
      exact ⟨rfl, rfl⟩
    · have e : PM.ahead a b = decide (a < b) := by simp [PM.ahead, ha, hb]
      rw [e]; clear e
      go_enter Try.func18, Try.ntmps18
      go_wp2_with (go_at_call 16; refine (rright_any _ _).mono ?_; rintro e w' ⟨rfl, rfl⟩)
      go_ret
      exact ⟨rfl, rfl⟩

theorem next_any (p : Int) (w : World) :
    Calls Try.prog 13 #[.int .i64 p] w fun e w' => e = .returned (.tuple #[.int .i64 (PM.nextN p), .int .i64 (PM.nextE p)]) ∧ w = w' := by
  cases h : PM.right p
  · have e1 : PM.nextN p = 0 := by simp [PM.nextN, h]
    have e2 : PM.nextE p = 14 := by simp [PM.nextE, h]
    rw [e1, e2]; clear e1 e2
    go_enter Try.func13, Try.ntmps13
    go_wp2_with (go_at_call 15; refine (right_any _ _).mono ?_; rintro e w' ⟨rfl, rfl⟩)
    go_ret2
    exact ⟨rfl, rfl⟩
  · obtain ⟨h1, h2⟩ := PM.right_true.1 h
    have e2 : PM.nextE p = 0 := by simp [PM.nextE, h]
    by_cases h6 : p = 6
    · subst h6
      have e1 : PM.nextN 6 = 1 := by decide
      rw [e1, e2]; clear e1 e2
      go_enter Try.func13, Try.ntmps13
      go_wp2_with (go_at_call 15; refine (right_any _ _).mono ?_; rintro e w' ⟨rfl, rfl⟩)
      go_ret2
      exact ⟨rfl, rfl⟩
    · have e1 : PM.nextN p = p + 1 := by simp [PM.nextN, h, h6]
      have c : (p == 6) = false := by simpa using h6
      rw [e1, e2]; clear e1 e2 h6
      go_enter Try.func13, Try.ntmps13
      go_wp2_with (go_at_call 15; refine (right_any _ _).mono ?_; rintro e w' ⟨rfl, rfl⟩)
      go_ret2
      exact ⟨rfl, rfl⟩

theorem rnext_any (p : Int) (w : World) :
    Calls Try.prog 14 #[.int .i64 p] w fun e w' => e = .returned (.tuple #[.int .i64 (PM.nextN p), .int .i64 (PM.nextE p)]) ∧ w = w' := by
  cases h : PM.right p
  · have e1 : PM.nextN p = 0 := by simp [PM.nextN, h]
    have e2 : PM.nextE p = 14 := by simp [PM.nextE, h]
    rw [e1, e2]; clear e1 e2
    go_enter Try.func14, Try.ntmps14
    go_wp2_with (go_at_call 16; refine (rright_any _ _).mono ?_; rintro e w' ⟨rfl, rfl⟩)
    go_ret2
    exact ⟨rfl, rfl⟩
  · obtain ⟨h1, h2⟩ := PM.right_true.1 h
    have hp : p = 1 ∨ p = 2 ∨ p = 3 ∨ p = 4 ∨ p = 5 ∨ p = 6 := by omega
    clear h1 h2
    rcases hp with rfl | rfl | rfl | rfl | rfl | rfl
    all_goals
      go_enter Try.func14, Try.ntmps14
      go_wp2_with (go_at_call 16; refine (rright_any _ _).mono ?_; rintro e w' ⟨rfl, rfl⟩)
      go_ret2
      exact ⟨rfl, rfl⟩

theorem allowed_any (p : Int) (w : World) :
    Calls Try.prog 43 #[.int .i64 p] w fun e w' => e = .returned (.int .i64 (PM.allow p)) ∧ w = w' := by
  rcases PM.seven p with rfl | rfl | rfl | rfl | rfl | rfl | hp
  case inr.inr.inr.inr.inr.inr =>
    rw [PM.allow_no hp]
    have c1 : (p == 1) = false := by simp; omega
    have c2 : (p == 2) = false := by simp; omega
    have c3 : (p == 3) = false := by simp; omega
    have c4 : (p == 4) = false := by simp; omega
    have c5 : (p == 5) = false := by simp; omega
    have c6 : (p == 6) = false := by simp; omega
    clear hp
    go_enter Try.func43, Try.ntmps43
    go_wp2
    go_ret
    exact ⟨rfl, rfl⟩
  all_goals
    go_enter Try.func43, Try.ntmps43
    go_wp2
    go_ret
    exact ⟨rfl, rfl⟩
end Go.Proofs.Ytnadhecgbfldmaa
