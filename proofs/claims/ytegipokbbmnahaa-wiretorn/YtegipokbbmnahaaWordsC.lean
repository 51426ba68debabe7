/- Contracts: what reads a number, the program's and the reference's. -/
import Derived.Test.YtegipokbbmnahaaWordsB
namespace Go.Proofs.Ytegipokbbmnahaa
open Go.RowKit
set_option linter.unusedVariables false

theorem number_any (b : Bool) (s : ByteArray) (w : World) (hs : s.size ≤ 9223372036854775807) (hd : (L s).all WM.dig = true) :
    Calls Try.prog 55 #[.bool b, .string s] w fun e w' => e = .returned (.tuple #[.int .i64 (WM.signN (WM.val (L s)) b), .int .i64 (WM.signE (WM.val (L s)) b)]) ∧ w = w' := by
  have C := sizeOf_any s w hs hd
  obtain ⟨r0, r1⟩ := WM.mval_range hd
  rw [← (WM.sign_mval hd b).1, ← (WM.sign_mval hd b).2]
  generalize WM.mval (L s) = v at *
  have HC := Lib.hid C
  clear C
  generalize hn : WM.signN v b = rn
  generalize he : WM.signE v b = re
  have HN := Lib.hid hn
  have HE := Lib.hid he
  clear hn he hd
  by_cases c0 : v = 0
  · subst c0
    cases b
    · go_enter Try.func55, Try.ntmps55
      go_wp2_with fail
      refine HC.out.mono ?_
      rintro e w' ⟨rfl, rfl⟩
      go_wp2
      go_ret2
      exact ⟨by rw [← HN.out, ← HE.out]; rfl, rfl⟩
    · go_enter Try.func55, Try.ntmps55
      go_wp2_with fail
      refine HC.out.mono ?_
      rintro e w' ⟨rfl, rfl⟩
      go_wp2
      go_ret2
      exact ⟨by rw [← HN.out, ← HE.out]; rfl, rfl⟩
  · have d0 : (v == 0) = false := by simpa using c0
    by_cases c1 : v = 1152921504606846977
    · have d1 : (v == 1152921504606846977) = true := by simpa using c1
      have H1 : Hid (rn = 0 ∧ re = 3) := Lib.hid (by rw [← HN.out, ← HE.out, c1]; unfold WM.signN WM.signE WM.most; simp)
      clear c1
      go_enter Try.func55, Try.ntmps55
      go_wp2_with fail
      refine HC.out.mono ?_
      rintro e w' ⟨rfl, rfl⟩
      go_wp2
      go_ret2
      exact ⟨by rw [H1.out.1, H1.out.2]; rfl, rfl⟩
    · have d1 : (v == 1152921504606846977) = false := by simpa using c1
      have hm : ¬ WM.most < v := by unfold WM.most; omega
      cases b
      · have H1 : Hid (rn = v ∧ re = 0) := Lib.hid (by rw [← HN.out, ← HE.out]; unfold WM.signN WM.signE; simp [hm])
        clear hm
        go_enter Try.func55, Try.ntmps55
        go_wp2_with fail
        refine HC.out.mono ?_
        rintro e w' ⟨rfl, rfl⟩
        go_wp2
        go_ret2
        exact ⟨by rw [H1.out.1, H1.out.2]; rfl, rfl⟩
      · have H1 : Hid (rn = -v ∧ re = 0) := Lib.hid (by rw [← HN.out, ← HE.out]; unfold WM.signN WM.signE; simp [hm, c0])
        clear hm
        go_enter Try.func55, Try.ntmps55
        go_wp2_with fail
        refine HC.out.mono ?_
        rintro e w' ⟨rfl, rfl⟩
        go_wp2
        go_ret2
        exact ⟨by rw [H1.out.1, H1.out.2]; rfl, rfl⟩

theorem int_any (s : ByteArray) (w : World) (hs : s.size ≤ 9223372036854775807) :
    Calls Try.prog 14 #[.string s] w fun e w' => e = .returned (.tuple #[.int .i64 (WM.intN (L s)), .int .i64 (WM.intE (L s))]) ∧ ∃ n, w' = w.drewN n := by
  have HC := Lib.hid (cutSign_any s w hs)
  generalize hn : WM.intN (L s) = rn
  generalize he : WM.intE (L s) = re
  have HN := Lib.hid hn
  have HE := Lib.hid he
  clear hn he
  go_enter Try.func14, Try.ntmps14
  go_wp2_with fail
  refine HC.out.mono ?_
  rintro e w' ⟨t, rfl, h1, h2, m, rfl⟩
  have h3 : t.size ≤ 9223372036854775807 := by omega
  have H1 := Lib.hid h1
  clear h1
  cases hd : WM.digits (L t)
  · have HD := Lib.hid hd
    go_wp2_with fail
    refine (isWhole_any t _ h3).mono ?_
    rintro e w' ⟨rfl, rfl⟩
    go_wp2
    go_ret2
    exact ⟨by rw [← HN.out, ← HE.out]; unfold WM.intN WM.intE; rw [← H1.out, HD.out]; rfl, m, rfl⟩
  · have HD := Lib.hid hd
    go_wp2_with fail
    refine (isWhole_any t _ h3).mono ?_
    rintro e w' ⟨rfl, rfl⟩
    go_wp2_with fail
    refine (number_any _ t _ h3 (WM.digits_all HD.out)).mono ?_
    rintro e w' ⟨rfl, rfl⟩
    go_wp2
    go_ret2
    exact ⟨by rw [← HN.out, ← HE.out]; unfold WM.intN WM.intE; rw [← H1.out, HD.out]; rfl, m, rfl⟩

/-! the reference's -/
set_option maxHeartbeats 1000000 in
theorem rdigits_any (s : ByteArray) (w : World) (hs : s.size ≤ 9223372036854775807) :
    Calls Try.prog 56 #[.string s] w fun e w' => e = .returned (.bool (WM.digits (L s))) ∧ w = w' := by
  generalize hv : WM.digits (L s) = v
  have HV := Lib.hid hv
  clear hv
  go_enter Try.func56, Try.ntmps56
  go_wp2
  go_loop [3] (fun i => ∃ k : Nat, k ≤ s.size ∧ i = .int .i64 k ∧ Hid (((L s).take k).all WM.dig = true)) (fun i => s.size - (intOf i).toNat)
  case atStart => exact ⟨0, by omega, rfl, Lib.hid rfl⟩
  case round =>
    obtain ⟨k, hk, rfl, HA⟩ := hrel
    by_cases hlt : k < s.size
    · cases hd : WM.dig s[k]
      · have HN := all_not hlt hd
        have HN : Hid (v = false) := Lib.hid (by rw [← HV.out]; unfold WM.digits; rw [HN]; rfl)
        rcases WM.dig_false.1 hd with h | h
        · go_wp2
          go_ret
          exact ⟨by rw [HN.out]; rfl, rfl⟩
        · go_wp2
          go_ret
          exact ⟨by rw [HN.out]; rfl, rfl⟩
      · have HN := Lib.hid (all_step hlt HA.out hd)
        obtain ⟨d1, d2⟩ := WM.dig_true.1 hd
        go_wp2
        go_round
        case rel => exact ⟨k + 1, by omega, by go_num, HN⟩
        case measure => simp [intOf]; omega
    · obtain rfl : k = s.size := by omega
      have HE := HA.out
      rw [L_take_all] at HE
      have HE := Lib.hid HE
      by_cases h0 : s.size = 0
      · have HN : Hid (v = false) := Lib.hid (by rw [← HV.out, L_nil h0]; rfl)
        have e1 : ((s.size : Int) == 1) = false := by simp; omega
        have e2 : decide (1 < (s.size : Int)) = false := by simp; omega
        go_wp2
        go_ret
        exact ⟨by rw [HN.out]; rfl, rfl⟩
      · have hp : 0 < s.size := by omega
        have HD := WM.digits_def (l := L s) (by rw [L_len]; exact hp)
        rw [L_head s hp, L_len, HV.out, HE.out] at HD
        by_cases h1 : s.size = 1
        · have HN : Hid (v = true) := Lib.hid (by rw [HD, h1]; simp)
          have e1 : ((s.size : Int) == 1) = true := by simp; omega
          clear HD h1
          go_wp2
          go_ret
          exact ⟨by rw [HN.out]; rfl, rfl⟩
        · have e1 : ((s.size : Int) == 1) = false := by simp; omega
          have e2 : 1 < s.size := by omega
          have e3 : decide (1 < s.size) = true := by simpa using e2
          rw [e3] at HD
          clear e3
          have HN : Hid (v = ((s[0].toNat : Int) != 48)) := Lib.hid (by
            rw [HD]
            rw [Bool.eq_iff_iff]
            simp only [Bool.and_true, Bool.not_eq_true', beq_eq_false_iff_ne, ne_eq, bne_iff_ne]
            constructor
            · intro h h'
              exact h (UInt8.toNat_inj.1 (by have : (48 : UInt8).toNat = 48 := rfl; omega))
            · intro h h'
              exact h (by rw [h']; rfl))
          clear HD
          go_wp2
          all_goals
            go_ret
            exact ⟨by rw [HN.out]; first | rfl | simp_all, rfl⟩
end Go.Proofs.Ytegipokbbmnahaa
