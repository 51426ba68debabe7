/- Contracts of layer 3's readers of numbers, the program's. -/
import Derived.Test.YtegipokbbmnahaaWordsA
import Derived.Test.YtegipokbbmnahaaWordMath4
namespace Go.Proofs.Ytegipokbbmnahaa
open Go.RowKit
set_option linter.unusedVariables false

theorem isWhole_any (s : ByteArray) (w : World) (hs : s.size ≤ 9223372036854775807) :
    Calls Try.prog 54 #[.string s] w fun e w' => e = .returned (.bool (WM.digits (L s))) ∧ w = w' := by
  by_cases h0 : s.size = 0
  · rw [L_nil h0, WM.digits_nil]
    have he := isEmpty_true h0
    clear h0
    go_enter Try.func54, Try.ntmps54
    go_wp2
    go_ret
    exact ⟨rfl, rfl⟩
  · have hp : 0 < s.size := by omega
    have he := isEmpty_false hp
    have HD := WM.digits_def (l := L s) (by rw [L_len]; exact hp)
    rw [L_head s hp, L_len] at HD
    cases h48 : (s[0] == 48)
    · have HD := Lib.hid HD
      have e1 : ((s[0].toNat : Int) == 48) = false := by
        simp only [beq_eq_false_iff_ne, ne_eq] at h48 ⊢
        intro h
        exact h48 (UInt8.toNat_inj.1 (by have : (48 : UInt8).toNat = 48 := rfl; omega))
      have H48 := Lib.hid h48
      clear h48
      go_enter Try.func54, Try.ntmps54
      go_wp2_with (go_at_call 59; refine (areDigits_any _ _ hs).mono ?_; rintro e w' ⟨rfl, rfl⟩)
      go_ret
      exact ⟨by rw [HD.out, H48.out]; rfl, rfl⟩
    · have e1 : ((s[0].toNat : Int) == 48) = true := by
        simp only [beq_iff_eq] at h48 ⊢
        rw [h48]; rfl
      have HD := Lib.hid HD
      have H48 := Lib.hid h48
      clear h48
      by_cases h1 : 1 < s.size
      · have e2 : decide (1 < s.size) = true := by simpa using h1
        have HE := Lib.hid e2
        go_enter Try.func54, Try.ntmps54
        go_wp2_with (go_at_call 59; refine (areDigits_any _ _ hs).mono ?_; rintro e w' ⟨rfl, rfl⟩)
        go_ret
        exact ⟨by rw [HD.out, H48.out, HE.out]; rfl, rfl⟩
      · have e2 : decide (1 < s.size) = false := by simpa using h1
        have HE := Lib.hid e2
        go_enter Try.func54, Try.ntmps54
        go_wp2_with (go_at_call 59; refine (areDigits_any _ _ hs).mono ?_; rintro e w' ⟨rfl, rfl⟩)
        go_ret
        exact ⟨by rw [HD.out, H48.out, HE.out]; rfl, rfl⟩

/-- what follows the sign -/
theorem cut_parts (s : ByteArray) : ∃ t : ByteArray, L t = WM.cut (L s) ∧ t.size ≤ s.size ∧
    ((s.size = 0 ∧ t = s ∧ WM.below (L s) = false) ∨ (∃ h : 0 < s.size, ((s[0].toNat : Int) == 45) = false ∧ t = s ∧ WM.below (L s) = false) ∨
      (∃ h : 0 < s.size, ((s[0].toNat : Int) == 45) = true ∧ t = s.extract 1 s.size ∧ WM.below (L s) = true)) := by
  by_cases h0 : s.size = 0
  · exact ⟨s, by rw [L_nil h0]; rfl, Nat.le_refl _, .inl ⟨h0, rfl, by rw [L_nil h0]; rfl⟩⟩
  · have hp : 0 < s.size := by omega
    cases hb : WM.below (L s)
    · refine ⟨s, (WM.of_plain hb).symm, Nat.le_refl _, .inr (.inl ⟨hp, ?_, rfl, rfl⟩)⟩
      unfold WM.below at hb
      rw [L_head s hp] at hb
      simp only [beq_eq_false_iff_ne, ne_eq] at hb ⊢
      intro h
      exact hb (UInt8.toNat_inj.1 (by have : (45 : UInt8).toNat = 45 := rfl; omega))
    · refine ⟨s.extract 1 s.size, ?_, ?_, .inr (.inr ⟨hp, ?_, rfl, rfl⟩)⟩
      · rw [L_extract, L_take_all]
        have := WM.of_below hb
        conv => lhs; rw [this]
        rfl
      · rw [ByteArray.size_extract]; omega
      · unfold WM.below at hb
        rw [L_head s hp] at hb
        simp only [beq_iff_eq] at hb ⊢
        rw [hb]; rfl

theorem cutSign_any (s : ByteArray) (w : World) (hs : s.size ≤ 9223372036854775807) :
    Calls Try.prog 53 #[.string s] w fun e w' => ∃ t : ByteArray, e = .returned (.tuple #[.bool (WM.below (L s)), .string t]) ∧ L t = WM.cut (L s) ∧ t.size ≤ s.size ∧ ∃ n, w' = w.drewN n := by
  obtain ⟨t, h1, h2, h3⟩ := cut_parts s
  have H1 := Lib.hid h1
  clear h1
  rcases h3 with ⟨h0, rfl, hb⟩ | ⟨hp, c, rfl, hb⟩ | ⟨hp, c, rfl, hb⟩
  · rw [hb]; clear hb
    have he := isEmpty_true h0
    clear h0
    go_enter Try.func53, Try.ntmps53
    go_wp2
    go_ret2
    exact ⟨_, rfl, H1.out, h2, 0, rfl⟩
  · rw [hb]; clear hb
    have he := isEmpty_false hp
    go_enter Try.func53, Try.ntmps53
    go_wp2
    go_ret2
    exact ⟨_, rfl, H1.out, h2, 0, rfl⟩
  · rw [hb]; clear hb
    have he := isEmpty_false hp
    go_enter Try.func53, Try.ntmps53
    go_wp2
    go_quiet (fail)
    go_wp2
    go_ret2
    exact ⟨_, rfl, H1.out, h2, _, rfl⟩

theorem dval_nat {c : UInt8} (h : WM.dig c = true) : ((c.toNat : Int) - 48) = WM.dval c := rfl

set_option maxHeartbeats 1000000 in
theorem sizeOf_any (s : ByteArray) (w : World) (hs : s.size ≤ 9223372036854775807) (hd : (L s).all WM.dig = true) :
    Calls Try.prog 74 #[.string s] w fun e w' => e = .returned (.int .i64 (WM.mval (L s))) ∧ w = w' := by
  generalize hv : WM.mval (L s) = v
  have HV := Lib.hid hv
  have HD := Lib.hid hd
  clear hv hd
  go_enter Try.func74, Try.ntmps74
  go_wp2
  go_loop [2, 6] (fun n i => ∃ k : Nat, ∃ x : Int, k ≤ s.size ∧ i = .int .i64 k ∧ n = .int .i64 x ∧ Hid (WM.mval ((L s).take k) = x)) (fun _ i => s.size - (intOf i).toNat)
  case atStart => exact ⟨0, 0, by omega, rfl, rfl, Lib.hid rfl⟩
  case round =>
    obtain ⟨k, x, hk, rfl, rfl, HX⟩ := hrel
    by_cases hlt : k < s.size
    · by_cases hx : 115292150460684697 < x
      · have HN := Lib.hid (WM.mval_stop HD.out k (by rw [L_len]; exact hlt) (by rw [HX.out]; exact hx))
        go_wp2
        go_ret
        exact ⟨by rw [← HV.out, HN.out]; rfl, rfl⟩
      · have hc : WM.dig s[k] = true := by rw [← L_get s k hlt]; exact WM.all_get HD.out k (by rw [L_len]; exact hlt)
        have hst := WM.mval_step (WM.all_take HD.out k) hc (by rw [HX.out]; exact hx)
        have hdr := WM.dval_range hc
        obtain ⟨d1, d2⟩ := WM.dig_true.1 hc
        rw [← L_take_succ s k hlt, HX.out] at hst
        have x0 := hst.2
        have HS := Lib.hid hst.1
        clear hst hdr hc
        unfold WM.dval at HS
        go_wp2
        all_goals
          go_round
          case rel => exact ⟨k + 1, _, by omega, by go_num, rfl, Lib.hid (by rw [HS.out]; omega)⟩
          case measure => simp [intOf]; omega
    · obtain rfl : k = s.size := by omega
      have HE := HX.out
      rw [L_take_all] at HE
      have HE := Lib.hid HE
      go_wp2
      go_ret
      exact ⟨by rw [← HV.out, HE.out]; rfl, rfl⟩
end Go.Proofs.Ytegipokbbmnahaa
