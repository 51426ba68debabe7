/- Contracts: the reference's numbers; names. -/
import Derived.Test.YtegipokbbmnahaaWordsC
namespace Go.Proofs.Ytegipokbbmnahaa
open Go.RowKit
set_option linter.unusedVariables false

set_option maxHeartbeats 1000000 in
theorem rvalue_any (s : ByteArray) (w : World) (hs : s.size ≤ 9223372036854775807) (hd : (L s).all WM.dig = true) :
    Calls Try.prog 58 #[.string s] w fun e w' => e = .returned (.int .i64 (WM.sval (L s))) ∧ w = w' := by
  have HD := Lib.hid hd
  clear hd
  generalize hv : WM.sval (L s) = v
  have HV := Lib.hid hv
  clear hv
  go_enter Try.func58, Try.ntmps58
  go_wp2
  go_loop [3, 4] (fun n i => ∃ k : Nat, ∃ x : Int, k ≤ s.size ∧ i = .int .i64 k ∧ n = .int .i64 x ∧ 0 ≤ x ∧ x ≤ 1152921504606846979 ∧ Hid (WM.sval ((L s).take k) = x)) (fun _ i => s.size - (intOf i).toNat)
  case atStart => exact ⟨0, 0, by omega, rfl, rfl, by omega, by omega, Lib.hid rfl⟩
  case round =>
    obtain ⟨k, x, hk, rfl, rfl, x0, x1, HX⟩ := hrel
    by_cases hlt : k < s.size
    · by_cases hx : 115292150460684697 < x
      · have HN := Lib.hid (WM.sval_over k (by rw [L_len]; exact hlt) (by rw [HX.out]; exact hx))
        go_wp2
        go_ret
        exact ⟨by rw [← HV.out, HN.out]; rfl, rfl⟩
      · have hc : WM.dig s[k] = true := by rw [← L_get s k hlt]; exact WM.all_get HD.out k (by rw [L_len]; exact hlt)
        have hst := WM.sval_snoc ((L s).take k) s[k]
        have hdr := WM.dval_range hc
        obtain ⟨d1, d2⟩ := WM.dig_true.1 hc
        rw [← L_take_succ s k hlt, HX.out, if_neg hx] at hst
        have HS := Lib.hid hst
        clear hst hdr hc
        unfold WM.dval at HS
        go_wp2
        go_round
        case rel => exact ⟨k + 1, _, by omega, by go_num, rfl, by omega, by omega, Lib.hid (by rw [HS.out])⟩
        case measure => simp [intOf]; omega
    · obtain rfl : k = s.size := by omega
      have HE := HX.out
      rw [L_take_all] at HE
      have HE := Lib.hid HE
      go_wp2
      go_ret
      exact ⟨by rw [← HV.out, HE.out]; rfl, rfl⟩

theorem rsigned_any (v : Int) (b : Bool) (w : World) (v0 : 0 ≤ v) (v1 : v ≤ 1152921504606846979) :
    Calls Try.prog 57 #[.int .i64 v, .bool b] w fun e w' => e = .returned (.tuple #[.int .i64 (WM.signN v b), .int .i64 (WM.signE v b)]) ∧ w = w' := by
  generalize hn : WM.signN v b = rn
  generalize he : WM.signE v b = re
  have HN := Lib.hid hn
  have HE := Lib.hid he
  clear hn he
  by_cases c1 : 1152921504606846976 < v
  · have H1 : Hid (rn = 0 ∧ re = 3) := Lib.hid (by
      rw [← HN.out, ← HE.out]; unfold WM.signN WM.signE WM.most
      have : v ≠ 0 := by omega
      simp [c1, this])
    have d0 : (v == 0) = false := by simp; omega
    cases b
    · go_enter Try.func57, Try.ntmps57
      go_wp2
      go_ret2
      exact ⟨by rw [H1.out.1, H1.out.2]; rfl, rfl⟩
    · go_enter Try.func57, Try.ntmps57
      go_wp2
      go_ret2
      exact ⟨by rw [H1.out.1, H1.out.2]; rfl, rfl⟩
  · have hm : ¬ WM.most < v := by unfold WM.most; omega
    cases b
    · have H1 : Hid (rn = v ∧ re = 0) := Lib.hid (by rw [← HN.out, ← HE.out]; unfold WM.signN WM.signE; simp [hm])
      clear hm
      go_enter Try.func57, Try.ntmps57
      go_wp2
      go_ret2
      exact ⟨by rw [H1.out.1, H1.out.2]; rfl, rfl⟩
    · by_cases c0 : v = 0
      · subst c0
        have H1 : Hid (rn = 0 ∧ re = 5) := Lib.hid (by rw [← HN.out, ← HE.out]; exact ⟨rfl, rfl⟩)
        clear hm
        go_enter Try.func57, Try.ntmps57
        go_wp2
        go_ret2
        exact ⟨by rw [H1.out.1, H1.out.2]; rfl, rfl⟩
      · have H1 : Hid (rn = -v ∧ re = 0) := Lib.hid (by rw [← HN.out, ← HE.out]; unfold WM.signN WM.signE; simp [hm, c0])
        have d0 : (v == 0) = false := by simpa using c0
        clear hm
        go_enter Try.func57, Try.ntmps57
        go_wp2
        go_ret2
        exact ⟨by rw [H1.out.1, H1.out.2]; rfl, rfl⟩

theorem rint_any (s : ByteArray) (w : World) (hs : s.size ≤ 9223372036854775807) :
    Calls Try.prog 15 #[.string s] w fun e w' => e = .returned (.tuple #[.int .i64 (WM.intN (L s)), .int .i64 (WM.intE (L s))]) ∧ w = w' := by
  generalize hn : WM.intN (L s) = rn
  generalize he : WM.intE (L s) = re
  have HN := Lib.hid hn
  have HE := Lib.hid he
  clear hn he
  obtain ⟨t, h1, h2, h3⟩ := cut_parts s
  have h4 : t.size ≤ 9223372036854775807 := by omega
  have H1 := Lib.hid h1
  clear h1
  have fin : ∀ b, WM.below (L s) = b → WM.digits (L t) = false → rn = 0 ∧ re = 5 := by
    intro b hb hd
    rw [← HN.out, ← HE.out]; unfold WM.intN WM.intE; rw [← H1.out, hd]; exact ⟨rfl, rfl⟩
  have fin2 : ∀ b, WM.below (L s) = b → WM.digits (L t) = true → rn = WM.signN (WM.sval (L t)) b ∧ re = WM.signE (WM.sval (L t)) b := by
    intro b hb hd
    have hv := WM.sign_sval (WM.digits_all hd) b
    rw [← HN.out, ← HE.out]; unfold WM.intN WM.intE; rw [← H1.out, hd, hb, hv.1, hv.2]; exact ⟨rfl, rfl⟩
  have F1 := Lib.hid fin; have F2 := Lib.hid fin2
  clear fin fin2
  rcases h3 with ⟨h0, rfl, hb⟩ | ⟨hp, c, rfl, hb⟩ | ⟨hp, c, ht, hb⟩
  · have HB := Lib.hid hb
    have c0 : decide (0 < t.size) = false := decide_eq_false (by omega)
    clear hb h2 hs
    have hd : WM.digits (L t) = false := by rw [L_nil h0]; rfl
    have HF := Lib.hid (F1.out _ HB.out hd)
    go_enter Try.func15, Try.ntmps15
    go_wp2_with fail
    refine (rdigits_any t _ h4).mono ?_
    rintro e w' ⟨rfl, rfl⟩
    go_wp2
    go_ret2
    exact ⟨by rw [HF.out.1, HF.out.2]; rfl, rfl⟩
  · have HB := Lib.hid hb
    clear hb h2 hs
    cases hd : WM.digits (L t)
    · have HF := Lib.hid (F1.out _ HB.out hd)
      go_enter Try.func15, Try.ntmps15
      go_wp2_with fail
      refine (rdigits_any t _ h4).mono ?_
      rintro e w' ⟨rfl, rfl⟩
      go_wp2
      go_ret2
      exact ⟨by rw [HF.out.1, HF.out.2]; rfl, rfl⟩
    · have HD := Lib.hid hd
      go_enter Try.func15, Try.ntmps15
      go_wp2_with fail
      refine (rdigits_any t _ h4).mono ?_
      rintro e w' ⟨rfl, rfl⟩
      go_wp2_with fail
      refine (rvalue_any t _ h4 (WM.digits_all HD.out)).mono ?_
      rintro e w' ⟨rfl, rfl⟩
      have HF := Lib.hid (F2.out _ HB.out HD.out)
      obtain ⟨v0, v1⟩ := (WM.sval_val (WM.digits_all HD.out)).1
      go_wp2_with fail
      refine (rsigned_any _ _ _ v0 v1).mono ?_
      rintro e w' ⟨rfl, rfl⟩
      go_wp2
      go_ret2
      exact ⟨by rw [HF.out.1, HF.out.2]; rfl, rfl⟩
  · have HB := Lib.hid hb
    have HT := Lib.hid ht
    clear hb h2 ht
    cases hd : WM.digits (L t)
    · have HF := Lib.hid (F1.out _ HB.out hd)
      go_enter Try.func15, Try.ntmps15
      go_wp2_with fail
      rw [← HT.out]
      refine (rdigits_any t _ h4).mono ?_
      rintro e w' ⟨rfl, rfl⟩
      go_wp2
      go_ret2
      exact ⟨by rw [HF.out.1, HF.out.2]; rfl, rfl⟩
    · have HD := Lib.hid hd
      go_enter Try.func15, Try.ntmps15
      go_wp2_with fail
      rw [← HT.out]
      refine (rdigits_any t _ h4).mono ?_
      rintro e w' ⟨rfl, rfl⟩
      go_wp2_with fail
      refine (rvalue_any t _ h4 (WM.digits_all HD.out)).mono ?_
      rintro e w' ⟨rfl, rfl⟩
      have HF := Lib.hid (F2.out _ HB.out HD.out)
      obtain ⟨v0, v1⟩ := (WM.sval_val (WM.digits_all HD.out)).1
      go_wp2_with fail
      refine (rsigned_any _ _ _ v0 v1).mono ?_
      rintro e w' ⟨rfl, rfl⟩
      go_wp2
      go_ret2
      exact ⟨by rw [HF.out.1, HF.out.2]; rfl, rfl⟩
end Go.Proofs.Ytegipokbbmnahaa
