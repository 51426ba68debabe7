import Derived.Test.YtnadhecgbfldmaaPhaseF
namespace Go.Proofs.Ytnadhecgbfldmaa.phaseEach
open Go.RowKit
set_option linter.unusedVariables false

/-- may the act be done in a phase below k (k counted from -1)? -/
def some_ (a : Int) : Nat → Bool
  | 0 => false
  | k + 1 => some_ a k || PM.may ((k : Int) - 1) a
theorem some_all (a : Int) : some_ a 10 = (decide (1 ≤ a) && decide (a ≤ 10)) := by
  by_cases h : 1 ≤ a ∧ a ≤ 10
  · rcases PM.ten h.1 h.2 with rfl | rfl | rfl | rfl | rfl | rfl | rfl | rfl | rfl | rfl <;> decide
  · have : ∀ k, some_ a k = false := fun k => by
      induction k with
      | zero => rfl
      | succ k ih => unfold some_; rw [ih, PM.may_no (by omega)]; rfl
    rw [this]
    by_cases h1 : 1 ≤ a
    · have : ¬ a ≤ 10 := by omega
      simp [this]
    · simp [h1]
theorem acts_rise (p : Int) : ∀ k, 0 < k → k < (PM.acts p).length → (PM.acts p).getD (k - 1) 0 < (PM.acts p).getD k 0 := by
  rcases PM.seven p with rfl | rfl | rfl | rfl | rfl | rfl | hp
  case inr.inr.inr.inr.inr.inr => rw [PM.acts_no hp]; simp
  all_goals
    intro k h0 h1
    have : k ≤ 5 := by simp [PM.acts] at h1; omega
    have hk : k = 1 ∨ k = 2 ∨ k = 3 ∨ k = 4 ∨ k = 5 := by omega
    revert h0 h1
    rcases hk with rfl | rfl | rfl | rfl | rfl <;> decide
def has (zs : List Int) (a : Int) (k : Nat) : Bool := (zs.take k).contains a
theorem has_succ {zs : List Int} {a x : Int} {k : Nat} (hk : k < zs.length) (h : zs.getD k 0 = x) : has zs a (k + 1) = (has zs a k || (x == a)) := by
  unfold has
  rw [List.take_add_one, List.contains_eq_any_beq, List.contains_eq_any_beq, List.any_append]
  rw [List.getElem?_eq_getElem hk]
  have : zs[k] = x := by simpa [List.getD, hk] using h
  rw [this]
  simp [Bool.beq_comm]
theorem has_all (zs : List Int) (a : Int) : has zs a zs.length = zs.contains a := by unfold has; rw [List.take_length]
theorem acts_right {p : Int} (h : PM.right p = false) : PM.acts p = [] := PM.acts_no (PM.right_false.1 h)

set_option maxHeartbeats 4000000 in
set_option maxRecDepth 100000 in
theorem walk (a : Int) (w : World) (ha : -9223372036854775808 ≤ a ∧ a ≤ 9223372036854775807) :
    Calls Try.prog 7 #[.int .i64 a] w fun e w' => e = .returned (.bool true) ∧ Below w.heap.size w w' := by
  clear ha
  go_enter Try.func7, Try.ntmps7
  go_wp2_with fail
  go_loopw [3, 4, 5, 6, 7] (fun s i _ _ _ wr => ∃ k : Nat, k ≤ 10 ∧ i = .int .i64 ((k : Int) - 1) ∧ s = .bool (some_ a k) ∧ Below w.heap.size w wr) (fun _ i _ _ _ _ => (9 - intOf i).toNat)
  case atStart => exact ⟨0, by omega, rfl, rfl, Below.refl _ _⟩
  case round =>
    obtain ⟨k, hk, rfl, rfl, hB⟩ := hrel
    have HB := Lib.hid hB
    clear hB
    by_cases hlt : k < 10
    · have HR := Lib.hid (acts_rise ((k : Int) - 1))
      have C1 := Lib.hid (fun ww => pacts_any ((k : Int) - 1) ww)
      have C2 := Lib.hid (fun ww => pmay_any ((k : Int) - 1) a ww)
      have C3 := Lib.hid (fun ww => right_any ((k : Int) - 1) ww)
      have HM : Hid (PM.may ((k : Int) - 1) a = (PM.acts ((k : Int) - 1)).contains a) := Lib.hid rfl
      have HS : Hid (some_ a (k + 1) = (some_ a k || PM.may ((k : Int) - 1) a)) := Lib.hid rfl
      have HZ := Lib.hid (@acts_right ((k : Int) - 1))
      have HI := Lib.hid (acts_in ((k : Int) - 1))
      generalize PM.may ((k : Int) - 1) a = m at *
      generalize some_ a k = sk at *
      generalize PM.right ((k : Int) - 1) = r at *
      generalize PM.acts ((k : Int) - 1) = zs at *
      have d1 : decide ((k : Int) - 1 ≤ 8) = true := by simp; omega
      go_wp2_with fail
      refine (C1.out _).mono ?_
      rintro e w1 ⟨v, rfl, hown, b1⟩
      obtain ⟨A, cap, rfl, hI⟩ := hown.ints HI.out
      have HB1 := Lib.hid (HB.out.trans (b1.mono HB.out.size))
      clear hown b1 HB C1
      have l1 := hI.len
      go_wp2_with fail
      go_loopw [6, 7] (fun b i wr => ∃ j : Nat, j ≤ zs.length ∧ i = .int .i64 j ∧ b = .bool (has zs a j) ∧ ∃ n, wr = w1.drewN n) (fun _ i _ => zs.length - (intOf i).toNat)
      case atStart => exact ⟨0, by omega, rfl, rfl, 0, rfl⟩
      case round =>
        obtain ⟨j, hj, rfl, rfl, n, rfl⟩ := hrel
        by_cases hjl : j < zs.length
        · obtain ⟨b1, o1, x, rfl, hb1, hc1, HX, x1, x2⟩ := hI.get hjl
          have HN := Lib.hid (@has_succ zs a x j hjl HX.out)
          by_cases h0 : j = 0
          · subst h0
            have HI2 := Lib.hid hI
            clear hI
            rw [Nat.add_zero] at hc1
            have HN2 : Hid (has zs a (0 + 1) = (x == a)) := Lib.hid (by rw [HN.out]; rfl)
            have e0 : has zs a 0 = false := rfl
            rw [e0]
            go_wp2_with fail
            go_quiet (fail)
            go_wp2_with fail
            go_roundw
            case rel => exact ⟨0 + 1, by omega, by go_num, by rw [HN2.out], _, rfl⟩
            case measure => simp [intOf]; omega
          · obtain ⟨b2, o2, y, hA, hb2, hc2, HY, y1, y2⟩ := hI.get (show j - 1 < zs.length by omega)
            injection hA with hA
            injection hA with h1 h2
            subst h1 h2
            have hr := HR.out j (by omega) hjl
            rw [HX.out, HY.out] at hr
            have HI2 := Lib.hid hI
            clear hI
            obtain ⟨i, rfl⟩ : ∃ i, j = i + 1 := ⟨j - 1, by omega⟩
            rw [Nat.add_sub_cancel] at hc2
            clear h0
            cases hh : has zs a (i + 1)
            · rw [hh] at HN
              go_wp2_with fail
              go_quiet (fail)
              go_wp2_with fail
              go_roundw
              case rel => exact ⟨i + 1 + 1, by omega, by go_num, by rw [HN.out]; rfl, _, rfl⟩
              case measure => simp [intOf]; omega
            · rw [hh] at HN
              go_wp2_with fail
              go_quiet (fail)
              go_wp2_with fail
              go_roundw
              case rel => exact ⟨i + 1 + 1, by omega, by go_num, by rw [HN.out]; rfl, _, rfl⟩
              case measure => simp [intOf]; omega
        · obtain rfl : j = zs.length := by omega
          rw [has_all, ← HM.out]
          have HB2 := Lib.hid (below_drewN HB1.out n)
          generalize w1.drewN n = w2 at *
          clear hI
          go_wp2_with fail
          refine (C2.out _).mono ?_
          rintro e w3 ⟨rfl, rfl⟩
          by_cases hz : zs = []
          · subst hz
            cases sk
            all_goals
              go_wp2_with fail
              go_roundw
              case rel => exact ⟨k + 1, by omega, by go_num, by rw [HS.out]; rfl, HB2.out⟩
              case measure => simp [intOf]; omega
          · have hp : 0 < zs.length := List.length_pos_iff.2 hz
            have hr : r = true := by
              cases r
              · exact absurd (HZ.out rfl) hz
              · rfl
            subst hr
            clear hz
            cases sk
            all_goals
              go_wp2_with fail
              refine (C3.out _).mono ?_
              rintro e w3 ⟨rfl, rfl⟩
              go_wp2_with fail
              go_roundw
              case rel => exact ⟨k + 1, by omega, by go_num, by rw [HS.out]; rfl, HB2.out⟩
              case measure => simp [intOf]; omega
    · obtain rfl : k = 10 := by omega
      have HS := Lib.hid (some_all a)
      generalize some_ a 10 = sk at *
      by_cases a1 : 1 ≤ a
      · by_cases a2 : a ≤ 10
        · obtain rfl : sk = true := by rw [HS.out]; simp [a1, a2]
          clear HS
          go_wp2_with fail
          refine (goes7_any _).mono ?_
          rintro e w2 ⟨rfl, hb⟩
          have HB2 := Lib.hid (HB.out.trans (hb.mono HB.out.size))
          clear hb
          go_wp2_with fail
          go_ret
          exact ⟨rfl, HB2.out⟩
        · obtain rfl : sk = false := by rw [HS.out]; simp [a2]
          clear HS
          go_wp2_with fail
          refine (goes7_any _).mono ?_
          rintro e w2 ⟨rfl, hb⟩
          have HB2 := Lib.hid (HB.out.trans (hb.mono HB.out.size))
          clear hb
          go_wp2_with fail
          go_ret
          exact ⟨rfl, HB2.out⟩
      · obtain rfl : sk = false := by rw [HS.out]; simp [a1]
        clear HS
        go_wp2_with fail
        refine (goes7_any _).mono ?_
        rintro e w2 ⟨rfl, hb⟩
        have HB2 := Lib.hid (HB.out.trans (hb.mono HB.out.size))
        clear hb
        go_wp2_with fail
        go_ret
        exact ⟨rfl, HB2.out⟩
end Go.Proofs.Ytnadhecgbfldmaa.phaseEach
