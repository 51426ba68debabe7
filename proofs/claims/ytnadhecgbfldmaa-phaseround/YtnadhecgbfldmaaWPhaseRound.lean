import Derived.Test.YtnadhecgbfldmaaPhaseF
namespace Go.Proofs.Ytnadhecgbfldmaa.phaseRound
open Go.RowKit
set_option linter.unusedVariables false

/-- the phase k steps on from p -/
def at_ (p : Int) (k : Nat) : Int := (p - 1 + k) % 6 + 1
theorem at_zero {p : Int} (h1 : 1 ≤ p) (h2 : p ≤ 6) : at_ p 0 = p := by unfold at_; omega
theorem at_six {p : Int} (h1 : 1 ≤ p) (h2 : p ≤ 6) : at_ p 6 = p := by unfold at_; omega
theorem at_range (p : Int) (k : Nat) : 1 ≤ at_ p k ∧ at_ p k ≤ 6 := by unfold at_; omega
theorem at_next (p : Int) (k : Nat) : PM.nextN (at_ p k) = at_ p (k + 1) ∧ PM.nextE (at_ p k) = 0 := by
  have hr := PM.right_true.2 (at_range p k)
  unfold PM.nextN PM.nextE
  rw [hr]
  refine ⟨?_, rfl⟩
  simp only [if_true]
  unfold at_
  split <;> omega
theorem at_ne {p : Int} {k : Nat} (h1 : 1 ≤ p) (h2 : p ≤ 6) (h : k < 5) : at_ p (k + 1) ≠ p := by unfold at_; omega
theorem at_ahead (p : Int) (k : Nat) : (PM.ahead (at_ p k) (at_ p (k + 1)) == PM.ahead (at_ p (k + 1)) (at_ p k)) = false := by
  have r1 := PM.right_true.2 (at_range p k)
  have r2 := PM.right_true.2 (at_range p (k + 1))
  unfold PM.ahead
  rw [r1, r2]
  simp only [Bool.true_and]
  have : at_ p k ≠ at_ p (k + 1) := by unfold at_; omega
  by_cases h : at_ p k < at_ p (k + 1)
  · simp [h]; omega
  · simp [h]; omega

set_option maxHeartbeats 2000000 in
set_option maxRecDepth 100000 in
theorem walk (p : Int) (w : World) (hp : -9223372036854775808 ≤ p ∧ p ≤ 9223372036854775807) :
    Calls Try.prog 6 #[.int .i64 p] w fun e w' => e = .returned (.bool true) ∧ Below w.heap.size w w' := by
  have C1 := Lib.hid (fun ww => right_any p ww)
  cases h : PM.right p
  · rw [h] at C1
    have hr := PM.right_false.1 h
    have C2 : Hid (∀ ww, Calls Try.prog 13 #[.int .i64 p] ww fun e w' => e = .returned (.tuple #[.int .i64 0, .int .i64 14]) ∧ ww = w') := Lib.hid (fun ww => by
      have := next_any p ww; unfold PM.nextN PM.nextE at this; rw [h] at this; exact this)
    have C3 : Hid (∀ ww, Calls Try.prog 27 #[.int .i64 p] ww fun e w' => e = .returned (.string ⟨#[]⟩) ∧ ww = w') := Lib.hid (fun ww => by
      have := pname_any p ww; rw [PM.name_no hr] at this; exact this)
    clear h hr hp
    go_enter Try.func6, Try.ntmps6
    go_wp2_with fail
    refine (C1.out _).mono ?_
    rintro e w1 ⟨rfl, rfl⟩
    go_wp2_with fail
    refine (C2.out _).mono ?_
    rintro e w1 ⟨rfl, rfl⟩
    go_wp2_with fail
    refine (C3.out _).mono ?_
    rintro e w1 ⟨rfl, rfl⟩
    go_wp2_with fail
    refine (goes7_any _).mono ?_
    rintro e w2 ⟨rfl, hb⟩
    go_wp2_with fail
    go_ret
    exact ⟨rfl, hb⟩
  · rw [h] at C1
    obtain ⟨p1, p2⟩ := PM.right_true.1 h
    clear h hp
    go_enter Try.func6, Try.ntmps6
    go_wp2_with fail
    refine (C1.out _).mono ?_
    rintro e w1 ⟨rfl, rfl⟩
    go_wp2_with fail
    go_loop [5, 6] (fun a i => ∃ k : Nat, k ≤ 6 ∧ i = .int .i64 k ∧ a = .int .i64 (at_ p k)) (fun _ i => 6 - (intOf i).toNat)
    case atStart => exact ⟨0, by omega, rfl, by rw [at_zero p1 p2]⟩
    case round =>
      obtain ⟨k, hk, rfl, rfl⟩ := hrel
      by_cases hlt : k < 6
      · have D1 := Lib.hid (fun ww => next_any (at_ p k) ww)
        rw [(at_next p k).1, (at_next p k).2] at D1
        obtain ⟨q1, q2⟩ := at_range p (k + 1)
        have D2 := Lib.hid (fun ww => pname_any (at_ p (k + 1)) ww)
        have D3 := Lib.hid (fun ww => pof_any (PM.nameS (at_ p (k + 1))) ww)
        rw [(PM.of_name q1 q2).1, (PM.of_name q1 q2).2] at D3
        have D4 := Lib.hid (fun ww => right_any (at_ p (k + 1)) ww)
        rw [PM.right_true.2 ⟨q1, q2⟩] at D4
        have D5 := Lib.hid (fun ww => ahead_any (at_ p k) (at_ p (k + 1)) ww)
        have D6 := Lib.hid (fun ww => ahead_any (at_ p (k + 1)) (at_ p k) ww)
        have ha := at_ahead p k
        generalize PM.ahead (at_ p k) (at_ p (k + 1)) = h1 at *
        generalize PM.ahead (at_ p (k + 1)) (at_ p k) = h2 at *
        generalize PM.nameS (at_ p (k + 1)) = s at *
        by_cases h5 : k < 5
        · have hne : (at_ p (k + 1) == p) = false := by simpa using at_ne p1 p2 h5
          have hrel2 : Hid (Value.int .i64 (at_ p (k + 1)) = .int .i64 (at_ p (k + 1))) := Lib.hid rfl
          generalize at_ p k = x at *
          have HX : Hid (∃ z, z = at_ p (k + 1)) := Lib.hid ⟨_, rfl⟩
          go_wp2_with fail
          refine (D1.out _).mono ?_
          rintro e w1 ⟨rfl, rfl⟩
          go_wp2_with fail
          refine (D2.out _).mono ?_
          rintro e w1 ⟨rfl, rfl⟩
          go_wp2_with fail
          refine (D3.out _).mono ?_
          rintro e w1 ⟨rfl, rfl⟩
          go_wp2_with fail
          refine (D4.out _).mono ?_
          rintro e w1 ⟨rfl, rfl⟩
          go_wp2_with fail
          refine (D5.out _).mono ?_
          rintro e w1 ⟨rfl, rfl⟩
          go_wp2_with fail
          refine (D6.out _).mono ?_
          rintro e w1 ⟨rfl, rfl⟩
          go_wp2_with fail
          go_round
          case rel => exact ⟨k + 1, by omega, by go_num, rfl⟩
          case measure => simp [intOf]; omega
        · generalize at_ p k = x at *
          go_wp2_with fail
          refine (D1.out _).mono ?_
          rintro e w1 ⟨rfl, rfl⟩
          go_wp2_with fail
          refine (D2.out _).mono ?_
          rintro e w1 ⟨rfl, rfl⟩
          go_wp2_with fail
          refine (D3.out _).mono ?_
          rintro e w1 ⟨rfl, rfl⟩
          go_wp2_with fail
          refine (D4.out _).mono ?_
          rintro e w1 ⟨rfl, rfl⟩
          go_wp2_with fail
          refine (D5.out _).mono ?_
          rintro e w1 ⟨rfl, rfl⟩
          go_wp2_with fail
          refine (D6.out _).mono ?_
          rintro e w1 ⟨rfl, rfl⟩
          go_wp2_with fail
          go_round
          case rel => exact ⟨k + 1, by omega, by go_num, rfl⟩
          case measure => simp [intOf]; omega
      · obtain rfl : k = 6 := by omega
        rw [at_six p1 p2]
        go_wp2_with fail
        refine (goes7_any _).mono ?_
        rintro e w2 ⟨rfl, hb⟩
        go_wp2_with fail
        go_ret
        exact ⟨rfl, hb⟩
end Go.Proofs.Ytnadhecgbfldmaa.phaseRound
