/- Put together: WordsA, WordMath4, WordsB, WordsC, WordsE, StrOf, Buf, CatMath. -/
import Derived.Test.YtiohainnpjikpaaDoorBun1
import Derived.Lib.AppendStr
import Derived.Maps.AppendAt
import Derived.OwnWalk
/- Contracts of the small functions of layer 3 that look at bytes and digits. -/
namespace Go.Proofs.YtiohainnpjikpaaDoor
open Go.RowKit

theorem isLetter_any (c : UInt8) (w : World) :
    Calls Tryd.prog 56 #[.int .u8 (c.toNat : Int)] w fun e w' => e = .returned (.bool (WM.letter c)) ∧ w = w' := by
  by_cases h1 : 97 ≤ (c.toNat : Int)
  · by_cases h2 : (c.toNat : Int) ≤ 122
    · rw [WM.letter_true.2 ⟨h1, h2⟩]
      go_enter Tryd.func56, Tryd.ntmps56
      go_wp2
      go_ret
      exact ⟨rfl, rfl⟩
    · rw [WM.letter_false.2 (by omega)]
      go_enter Tryd.func56, Tryd.ntmps56
      go_wp2
      go_ret
      exact ⟨rfl, rfl⟩
  · rw [WM.letter_false.2 (by omega)]
    go_enter Tryd.func56, Tryd.ntmps56
    go_wp2
    go_ret
    exact ⟨rfl, rfl⟩

theorem isDigit_any (c : UInt8) (w : World) :
    Calls Tryd.prog 57 #[.int .u8 (c.toNat : Int)] w fun e w' => e = .returned (.bool (WM.dig c)) ∧ w = w' := by
  by_cases h1 : 48 ≤ (c.toNat : Int)
  · by_cases h2 : (c.toNat : Int) ≤ 57
    · rw [WM.dig_true.2 ⟨h1, h2⟩]
      go_enter Tryd.func57, Tryd.ntmps57
      go_wp2
      go_ret
      exact ⟨rfl, rfl⟩
    · rw [WM.dig_false.2 (by omega)]
      go_enter Tryd.func57, Tryd.ntmps57
      go_wp2
      go_ret
      exact ⟨rfl, rfl⟩
  · rw [WM.dig_false.2 (by omega)]
    go_enter Tryd.func57, Tryd.ntmps57
    go_wp2
    go_ret
    exact ⟨rfl, rfl⟩

theorem all_step {p : UInt8 → Bool} {s : ByteArray} {k : Nat} (h : k < s.size) (ha : ((L s).take k).all p = true) (hk : p s[k] = true) : ((L s).take (k + 1)).all p = true := by
  rw [L_take_succ s k h, WM.all_snoc, ha, hk]; rfl
theorem all_not {p : UInt8 → Bool} {s : ByteArray} {k : Nat} (h : k < s.size) (hk : p s[k] = false) : (L s).all p = false :=
  WM.not_all k (by rw [L_len]; exact h) (by rw [L_get s k h]; exact hk)

theorem areDigits_any (s : ByteArray) (w : World) (hs : s.size ≤ 9223372036854775807) :
    Calls Tryd.prog 103 #[.string s] w fun e w' => e = .returned (.bool ((L s).all WM.dig)) ∧ w = w' := by
  generalize hv : (L s).all WM.dig = v
  have HV := Lib.hid hv
  clear hv
  go_enter Tryd.func103, Tryd.ntmps103
  go_wp2
  go_loop [6] (fun i => ∃ k : Nat, k ≤ s.size ∧ i = .int .i64 k ∧ Hid (((L s).take k).all WM.dig = true)) (fun i => s.size - (intOf i).toNat)
  case atStart => exact ⟨0, by omega, rfl, Lib.hid rfl⟩
  case round =>
    obtain ⟨k, hk, rfl, HA⟩ := hrel
    by_cases hlt : k < s.size
    · cases hd : WM.dig s[k]
      · have HN := Lib.hid (all_not hlt hd)
        go_wp2_with (go_at_call 57; refine (isDigit_any _ _).mono ?_; rintro e w' ⟨rfl, rfl⟩)
        go_ret
        exact ⟨by rw [← HV.out, HN.out]; rfl, rfl⟩
      · have HN := Lib.hid (all_step hlt HA.out hd)
        go_wp2_with (go_at_call 57; refine (isDigit_any _ _).mono ?_; rintro e w' ⟨rfl, rfl⟩)
        go_round
        case rel => exact ⟨k + 1, by omega, by go_num, HN⟩
        case measure => simp [intOf]; omega
    · obtain rfl : k = s.size := by omega
      have HE := HA.out
      rw [L_take_all] at HE
      have HE := Lib.hid HE
      go_wp2
      go_ret
      exact ⟨by rw [← HV.out, HE.out]; rfl, rfl⟩
end Go.Proofs.YtiohainnpjikpaaDoor

/- What the program's own readers of digits reckon. -/
namespace WM

theorem digits_nil : digits [] = false := rfl
/-- one digit or more, no nought ahead -/
theorem digits_def {l : List UInt8} (h : 0 < l.length) : digits l = (!((l.headD 0 == 48) && decide (1 < l.length)) && l.all dig) := by
  unfold digits
  by_cases h1 : l.length = 1
  · have e1 : (l.length == 1) = true := by simpa using h1
    have e2 : decide (1 < l.length) = false := by simp; omega
    rw [e1, e2]; simp
  · have e1 : (l.length == 1) = false := by simpa using h1
    have e2 : decide (1 < l.length) = true := by simp; omega
    rw [e1, e2]
    cases hh : (l.headD 0 == 48) with
    | true => simp only [bne, hh]; simp
    | false => simp only [bne, hh]; simp
/-- the value, but for what is above the greatest -/
def mval (l : List UInt8) : Int := min (val l) (most + 1)
theorem val_take {l : List UInt8} (h : l.all dig = true) (k : Nat) (hk : k < l.length) : 10 * val (l.take k) ≤ val l := by
  have key : ∀ n, ∀ l : List UInt8, l.length = k + 1 + n → l.all dig = true → 10 * val (l.take k) ≤ val l := by
    intro n
    induction n with
    | zero =>
      intro l hl hd
      have e : l = l.take k ++ [l[k]] := by
        rw [← take_snoc l k (by omega), List.take_of_length_le (by omega)]
      have h1 := dval_range (all_get hd k (by omega))
      have h2 : val l = 10 * val (l.take k) + dval l[k] := by
        conv => lhs; rw [e]
        rw [val_snoc]
      omega
    | succ n ih =>
      intro l hl hd
      have e : l = l.take (k + 1 + n) ++ [l[k + 1 + n]] := by
        rw [← take_snoc l _ (by omega), List.take_of_length_le (by omega)]
      have h0 := ih (l.take (k + 1 + n)) (by rw [List.length_take]; omega) (all_take hd _)
      rw [List.take_take, show min k (k + 1 + n) = k by omega] at h0
      have h1 := dval_range (all_get hd (k + 1 + n) (by omega))
      have h2 : val l = 10 * val (l.take (k + 1 + n)) + dval l[k + 1 + n] := by
        conv => lhs; rw [e]
        rw [val_snoc]
      have h3 := val_nonneg (all_take hd (k + 1 + n))
      omega
  exact key (l.length - (k + 1)) l (by omega) h
theorem mval_stop {l : List UInt8} (h : l.all dig = true) (k : Nat) (hk : k < l.length) (hv : 115292150460684697 < mval (l.take k)) : mval l = 1152921504606846977 := by
  have := val_take h k hk
  unfold mval most at *
  omega
theorem mval_step {l : List UInt8} (h : l.all dig = true) {c : UInt8} (hc : dig c = true) (hv : ¬ 115292150460684697 < mval l) : mval (l ++ [c]) = min (10 * mval l + dval c) 1152921504606846977 ∧ 0 ≤ mval l := by
  have := val_nonneg h
  have := dval_range hc
  unfold mval most at *
  rw [val_snoc]
  omega
theorem mval_range {l : List UInt8} (h : l.all dig = true) : 0 ≤ mval l ∧ mval l ≤ 1152921504606846977 := by
  have := val_nonneg h
  unfold mval most at *
  omega
theorem sign_mval {l : List UInt8} (h : l.all dig = true) (b : Bool) : signE (mval l) b = signE (val l) b ∧ signN (mval l) b = signN (val l) b := by
  have := val_nonneg h
  by_cases c : val l ≤ most
  · have : mval l = val l := by unfold mval; omega
    rw [this]; exact ⟨rfl, rfl⟩
  · have c' : most < val l := by omega
    have c2 : most < mval l := by unfold mval; omega
    have z1 : val l ≠ 0 := by unfold most at *; omega
    have z2 : mval l ≠ 0 := by unfold most at *; omega
    simp [signE, signN, c', c2, z1, z2]
theorem sval_stop {l : List UInt8} (h : l.all dig = true) (k : Nat) (hk : k < l.length) (hv : 115292150460684697 < sval (l.take k)) : most < val l := by
  have h1 := val_take h k hk
  have h2 := sval_val (all_take h k)
  have h3 := val_nonneg (all_take h k)
  unfold most at *
  by_cases c : val (l.take k) ≤ 1152921504606846976
  · have := h2.2.1 c; omega
  · omega
theorem sval_over {l : List UInt8} (k : Nat) (hk : k < l.length) (hv : 115292150460684697 < sval (l.take k)) : sval l = 1152921504606846977 := by
  have key : ∀ n, k + 1 + n ≤ l.length → sval (l.take (k + 1 + n)) = 1152921504606846977 := by
    intro n
    induction n with
    | zero =>
      intro h
      rw [take_snoc l k hk, sval_snoc, if_pos hv]; rfl
    | succ n ih =>
      intro h
      have e := ih (by omega)
      rw [show k + 1 + (n + 1) = (k + 1 + n) + 1 by omega, take_snoc l _ (by omega), sval_snoc, e, if_pos (by omega)]; rfl
  have := key (l.length - (k + 1)) (by omega)
  rw [List.take_of_length_le (by omega)] at this
  exact this
/-- what the reference's reader answers -/
def rval (l : List UInt8) : Int := if most < val l then most + 1 else val l
theorem sign_cases (v : Int) (b : Bool) : signE v b = (if b = true ∧ v = 0 then 5 else if most < v then 3 else 0) := rfl
end WM

/- Contracts of layer 3's readers of numbers, the program's. -/
namespace Go.Proofs.YtiohainnpjikpaaDoor
open Go.RowKit
set_option linter.unusedVariables false

theorem isWhole_any (s : ByteArray) (w : World) (hs : s.size ≤ 9223372036854775807) :
    Calls Tryd.prog 87 #[.string s] w fun e w' => e = .returned (.bool (WM.digits (L s))) ∧ w = w' := by
  by_cases h0 : s.size = 0
  · rw [L_nil h0, WM.digits_nil]
    have he := isEmpty_true h0
    clear h0
    go_enter Tryd.func87, Tryd.ntmps87
    go_wp2
    go_ret
    exact ⟨rfl, rfl⟩
  · have hp : 0 < s.size := by omega
    have he := isEmpty_false hp
    have HD := WM.digits_def (l := L s) (by rw [L_len]; exact hp)
    rw [L_head s hp, L_len] at HD
    cases h48 : (s[0] == 48)
    · have HD := Lib.hid HD
      have e1 : ((s[0].toNat : Int) == 48) = false := by
        simp only [beq_eq_false_iff_ne, ne_eq] at h48 ⊢
        intro h
        exact h48 (UInt8.toNat_inj.1 (by have : (48 : UInt8).toNat = 48 := rfl; omega))
      have H48 := Lib.hid h48
      clear h48
      go_enter Tryd.func87, Tryd.ntmps87
      go_wp2_with (go_at_call 103; refine (areDigits_any _ _ hs).mono ?_; rintro e w' ⟨rfl, rfl⟩)
      go_ret
      exact ⟨by rw [HD.out, H48.out]; rfl, rfl⟩
    · have e1 : ((s[0].toNat : Int) == 48) = true := by
        simp only [beq_iff_eq] at h48 ⊢
        rw [h48]; rfl
      have HD := Lib.hid HD
      have H48 := Lib.hid h48
      clear h48
      by_cases h1 : 1 < s.size
      · have e2 : decide (1 < s.size) = true := by simpa using h1
        have HE := Lib.hid e2
        go_enter Tryd.func87, Tryd.ntmps87
        go_wp2_with (go_at_call 103; refine (areDigits_any _ _ hs).mono ?_; rintro e w' ⟨rfl, rfl⟩)
        go_ret
        exact ⟨by rw [HD.out, H48.out, HE.out]; rfl, rfl⟩
      · have e2 : decide (1 < s.size) = false := by simpa using h1
        have HE := Lib.hid e2
        go_enter Tryd.func87, Tryd.ntmps87
        go_wp2_with (go_at_call 103; refine (areDigits_any _ _ hs).mono ?_; rintro e w' ⟨rfl, rfl⟩)
        go_ret
        exact ⟨by rw [HD.out, H48.out, HE.out]; rfl, rfl⟩

/-- what follows the sign -/
theorem cut_parts (s : ByteArray) : ∃ t : ByteArray, L t = WM.cut (L s) ∧ t.size ≤ s.size ∧
    ((s.size = 0 ∧ t = s ∧ WM.below (L s) = false) ∨ (∃ h : 0 < s.size, ((s[0].toNat : Int) == 45) = false ∧ t = s ∧ WM.below (L s) = false) ∨
      (∃ h : 0 < s.size, ((s[0].toNat : Int) == 45) = true ∧ t = s.extract 1 s.size ∧ WM.below (L s) = true)) := by
  by_cases h0 : s.size = 0
  · exact ⟨s, by rw [L_nil h0]; rfl, Nat.le_refl _, .inl ⟨h0, rfl, by rw [L_nil h0]; rfl⟩⟩
  · have hp : 0 < s.size := by omega
    cases hb : WM.below (L s)
    · refine ⟨s, (WM.of_plain hb).symm, Nat.le_refl _, .inr (.inl ⟨hp, ?_, rfl, rfl⟩)⟩
      unfold WM.below at hb
      rw [L_head s hp] at hb
      simp only [beq_eq_false_iff_ne, ne_eq] at hb ⊢
      intro h
      exact hb (UInt8.toNat_inj.1 (by have : (45 : UInt8).toNat = 45 := rfl; omega))
    · refine ⟨s.extract 1 s.size, ?_, ?_, .inr (.inr ⟨hp, ?_, rfl, rfl⟩)⟩
      · rw [L_extract, L_take_all]
        have := WM.of_below hb
        conv => lhs; rw [this]
        rfl
      · rw [ByteArray.size_extract]; omega
      · unfold WM.below at hb
        rw [L_head s hp] at hb
        simp only [beq_iff_eq] at hb ⊢
        rw [hb]; rfl

theorem cutSign_any (s : ByteArray) (w : World) (hs : s.size ≤ 9223372036854775807) :
    Calls Tryd.prog 86 #[.string s] w fun e w' => ∃ t : ByteArray, e = .returned (.tuple #[.bool (WM.below (L s)), .string t]) ∧ L t = WM.cut (L s) ∧ t.size ≤ s.size ∧ ∃ n, w' = w.drewN n := by
  obtain ⟨t, h1, h2, h3⟩ := cut_parts s
  have H1 := Lib.hid h1
  clear h1
  rcases h3 with ⟨h0, rfl, hb⟩ | ⟨hp, c, rfl, hb⟩ | ⟨hp, c, rfl, hb⟩
  · rw [hb]; clear hb
    have he := isEmpty_true h0
    clear h0
    go_enter Tryd.func86, Tryd.ntmps86
    go_wp2
    go_ret2
    exact ⟨_, rfl, H1.out, h2, 0, rfl⟩
  · rw [hb]; clear hb
    have he := isEmpty_false hp
    go_enter Tryd.func86, Tryd.ntmps86
    go_wp2
    go_ret2
    exact ⟨_, rfl, H1.out, h2, 0, rfl⟩
  · rw [hb]; clear hb
    have he := isEmpty_false hp
    go_enter Tryd.func86, Tryd.ntmps86
    go_wp2
    go_quiet (fail)
    go_wp2
    go_ret2
    exact ⟨_, rfl, H1.out, h2, _, rfl⟩

theorem dval_nat {c : UInt8} (h : WM.dig c = true) : ((c.toNat : Int) - 48) = WM.dval c := rfl

set_option maxHeartbeats 1000000 in
theorem sizeOf_any (s : ByteArray) (w : World) (hs : s.size ≤ 9223372036854775807) (hd : (L s).all WM.dig = true) :
    Calls Tryd.prog 104 #[.string s] w fun e w' => e = .returned (.int .i64 (WM.mval (L s))) ∧ w = w' := by
  generalize hv : WM.mval (L s) = v
  have HV := Lib.hid hv
  have HD := Lib.hid hd
  clear hv hd
  go_enter Tryd.func104, Tryd.ntmps104
  go_wp2
  go_loop [2, 6] (fun n i => ∃ k : Nat, ∃ x : Int, k ≤ s.size ∧ i = .int .i64 k ∧ n = .int .i64 x ∧ Hid (WM.mval ((L s).take k) = x)) (fun _ i => s.size - (intOf i).toNat)
  case atStart => exact ⟨0, 0, by omega, rfl, rfl, Lib.hid rfl⟩
  case round =>
    obtain ⟨k, x, hk, rfl, rfl, HX⟩ := hrel
    by_cases hlt : k < s.size
    · by_cases hx : 115292150460684697 < x
      · have HN := Lib.hid (WM.mval_stop HD.out k (by rw [L_len]; exact hlt) (by rw [HX.out]; exact hx))
        go_wp2
        go_ret
        exact ⟨by rw [← HV.out, HN.out]; rfl, rfl⟩
      · have hc : WM.dig s[k] = true := by rw [← L_get s k hlt]; exact WM.all_get HD.out k (by rw [L_len]; exact hlt)
        have hst := WM.mval_step (WM.all_take HD.out k) hc (by rw [HX.out]; exact hx)
        have hdr := WM.dval_range hc
        obtain ⟨d1, d2⟩ := WM.dig_true.1 hc
        rw [← L_take_succ s k hlt, HX.out] at hst
        have x0 := hst.2
        have HS := Lib.hid hst.1
        clear hst hdr hc
        unfold WM.dval at HS
        go_wp2
        all_goals
          go_round
          case rel => exact ⟨k + 1, _, by omega, by go_num, rfl, Lib.hid (by first | (rw [HS.out]; omega) | rw [HS.out])⟩
          case measure => simp [intOf]; omega
    · obtain rfl : k = s.size := by omega
      have HE := HX.out
      rw [L_take_all] at HE
      have HE := Lib.hid HE
      go_wp2
      go_ret
      exact ⟨by rw [← HV.out, HE.out]; rfl, rfl⟩
end Go.Proofs.YtiohainnpjikpaaDoor

/- Contracts: what reads a number, the program's and the reference's. -/
namespace Go.Proofs.YtiohainnpjikpaaDoor
open Go.RowKit
set_option linter.unusedVariables false

theorem number_any (b : Bool) (s : ByteArray) (w : World) (hs : s.size ≤ 9223372036854775807) (hd : (L s).all WM.dig = true) :
    Calls Tryd.prog 88 #[.bool b, .string s] w fun e w' => e = .returned (.tuple #[.int .i64 (WM.signN (WM.val (L s)) b), .int .i64 (WM.signE (WM.val (L s)) b)]) ∧ w = w' := by
  have C := sizeOf_any s w hs hd
  obtain ⟨r0, r1⟩ := WM.mval_range hd
  rw [← (WM.sign_mval hd b).1, ← (WM.sign_mval hd b).2]
  generalize WM.mval (L s) = v at *
  have HC := Lib.hid C
  clear C
  generalize hn : WM.signN v b = rn
  generalize he : WM.signE v b = re
  have HN := Lib.hid hn
  have HE := Lib.hid he
  clear hn he hd
  by_cases c0 : v = 0
  · subst c0
    cases b
    · go_enter Tryd.func88, Tryd.ntmps88
      go_wp2_with fail
      refine HC.out.mono ?_
      rintro e w' ⟨rfl, rfl⟩
      go_wp2
      go_ret2
      exact ⟨by rw [← HN.out, ← HE.out]; rfl, rfl⟩
    · go_enter Tryd.func88, Tryd.ntmps88
      go_wp2_with fail
      refine HC.out.mono ?_
      rintro e w' ⟨rfl, rfl⟩
      go_wp2
      go_ret2
      exact ⟨by rw [← HN.out, ← HE.out]; rfl, rfl⟩
  · have d0 : (v == 0) = false := by simpa using c0
    by_cases c1 : v = 1152921504606846977
    · have d1 : (v == 1152921504606846977) = true := by simpa using c1
      have H1 : Hid (rn = 0 ∧ re = 3) := Lib.hid (by rw [← HN.out, ← HE.out, c1]; unfold WM.signN WM.signE WM.most; simp)
      clear c1
      go_enter Tryd.func88, Tryd.ntmps88
      go_wp2_with fail
      refine HC.out.mono ?_
      rintro e w' ⟨rfl, rfl⟩
      go_wp2
      go_ret2
      exact ⟨by rw [H1.out.1, H1.out.2]; rfl, rfl⟩
    · have d1 : (v == 1152921504606846977) = false := by simpa using c1
      have hm : ¬ WM.most < v := by unfold WM.most; omega
      cases b
      · have H1 : Hid (rn = v ∧ re = 0) := Lib.hid (by rw [← HN.out, ← HE.out]; unfold WM.signN WM.signE; simp [hm])
        clear hm
        go_enter Tryd.func88, Tryd.ntmps88
        go_wp2_with fail
        refine HC.out.mono ?_
        rintro e w' ⟨rfl, rfl⟩
        go_wp2
        go_ret2
        exact ⟨by rw [H1.out.1, H1.out.2]; rfl, rfl⟩
      · have H1 : Hid (rn = -v ∧ re = 0) := Lib.hid (by rw [← HN.out, ← HE.out]; unfold WM.signN WM.signE; simp [hm, c0])
        clear hm
        go_enter Tryd.func88, Tryd.ntmps88
        go_wp2_with fail
        refine HC.out.mono ?_
        rintro e w' ⟨rfl, rfl⟩
        go_wp2
        go_ret2
        exact ⟨by rw [H1.out.1, H1.out.2]; rfl, rfl⟩

theorem int_any (s : ByteArray) (w : World) (hs : s.size ≤ 9223372036854775807) :
    Calls Tryd.prog 59 #[.string s] w fun e w' => e = .returned (.tuple #[.int .i64 (WM.intN (L s)), .int .i64 (WM.intE (L s))]) ∧ ∃ n, w' = w.drewN n := by
  have HC := Lib.hid (cutSign_any s w hs)
  generalize hn : WM.intN (L s) = rn
  generalize he : WM.intE (L s) = re
  have HN := Lib.hid hn
  have HE := Lib.hid he
  clear hn he
  go_enter Tryd.func59, Tryd.ntmps59
  go_wp2_with fail
  refine HC.out.mono ?_
  rintro e w' ⟨t, rfl, h1, h2, m, rfl⟩
  have h3 : t.size ≤ 9223372036854775807 := by omega
  have H1 := Lib.hid h1
  clear h1
  cases hd : WM.digits (L t)
  · have HD := Lib.hid hd
    go_wp2_with fail
    refine (isWhole_any t _ h3).mono ?_
    rintro e w' ⟨rfl, rfl⟩
    go_wp2
    go_ret2
    exact ⟨by rw [← HN.out, ← HE.out]; unfold WM.intN WM.intE; rw [← H1.out, HD.out]; rfl, m, rfl⟩
  · have HD := Lib.hid hd
    go_wp2_with fail
    refine (isWhole_any t _ h3).mono ?_
    rintro e w' ⟨rfl, rfl⟩
    go_wp2_with fail
    refine (number_any _ t _ h3 (WM.digits_all HD.out)).mono ?_
    rintro e w' ⟨rfl, rfl⟩
    go_wp2
    go_ret2
    exact ⟨by rw [← HN.out, ← HE.out]; unfold WM.intN WM.intE; rw [← H1.out, HD.out]; rfl, m, rfl⟩

/-! the reference's -/
set_option maxHeartbeats 1000000 in
theorem rdigits_any (s : ByteArray) (w : World) (hs : s.size ≤ 9223372036854775807) :
    Calls Tryd.prog 62 #[.string s] w fun e w' => e = .returned (.bool (WM.digits (L s))) ∧ w = w' := by
  generalize hv : WM.digits (L s) = v
  have HV := Lib.hid hv
  clear hv
  go_enter Tryd.func62, Tryd.ntmps62
  go_wp2
  go_loop [3] (fun i => ∃ k : Nat, k ≤ s.size ∧ i = .int .i64 k ∧ Hid (((L s).take k).all WM.dig = true)) (fun i => s.size - (intOf i).toNat)
  case atStart => exact ⟨0, by omega, rfl, Lib.hid rfl⟩
  case round =>
    obtain ⟨k, hk, rfl, HA⟩ := hrel
    by_cases hlt : k < s.size
    · cases hd : WM.dig s[k]
      · have HN := all_not hlt hd
        have HN : Hid (v = false) := Lib.hid (by rw [← HV.out]; unfold WM.digits; rw [HN]; rfl)
        rcases WM.dig_false.1 hd with h | h
        · go_wp2
          go_ret
          exact ⟨by rw [HN.out]; rfl, rfl⟩
        · go_wp2
          go_ret
          exact ⟨by rw [HN.out]; rfl, rfl⟩
      · have HN := Lib.hid (all_step hlt HA.out hd)
        obtain ⟨d1, d2⟩ := WM.dig_true.1 hd
        go_wp2
        go_round
        case rel => exact ⟨k + 1, by omega, by go_num, HN⟩
        case measure => simp [intOf]; omega
    · obtain rfl : k = s.size := by omega
      have HE := HA.out
      rw [L_take_all] at HE
      have HE := Lib.hid HE
      by_cases h0 : s.size = 0
      · have HN : Hid (v = false) := Lib.hid (by rw [← HV.out, L_nil h0]; rfl)
        have e1 : ((s.size : Int) == 1) = false := by simp; omega
        have e2 : decide (1 < (s.size : Int)) = false := by simp; omega
        go_wp2
        go_ret
        exact ⟨by rw [HN.out]; rfl, rfl⟩
      · have hp : 0 < s.size := by omega
        have HD := WM.digits_def (l := L s) (by rw [L_len]; exact hp)
        rw [L_head s hp, L_len, HV.out, HE.out] at HD
        by_cases h1 : s.size = 1
        · have HN : Hid (v = true) := Lib.hid (by rw [HD, h1]; simp)
          have e1 : ((s.size : Int) == 1) = true := by simp; omega
          clear HD h1
          go_wp2
          go_ret
          exact ⟨by rw [HN.out]; rfl, rfl⟩
        · have e1 : ((s.size : Int) == 1) = false := by simp; omega
          have e2 : 1 < s.size := by omega
          have e3 : decide (1 < s.size) = true := by simpa using e2
          rw [e3] at HD
          clear e3
          have HN : Hid (v = ((s[0].toNat : Int) != 48)) := Lib.hid (by
            rw [HD]
            rw [Bool.eq_iff_iff]
            simp only [Bool.and_true, Bool.not_eq_true', beq_eq_false_iff_ne, ne_eq, bne_iff_ne]
            constructor
            · intro h h'
              exact h (UInt8.toNat_inj.1 (by have : (48 : UInt8).toNat = 48 := rfl; omega))
            · intro h h'
              exact h (by rw [h']; rfl))
          clear HD
          go_wp2
          all_goals
            go_ret
            exact ⟨by rw [HN.out]; first | rfl | simp_all, rfl⟩
end Go.Proofs.YtiohainnpjikpaaDoor

/- Contracts: names. -/
namespace Go.Proofs.YtiohainnpjikpaaDoor
open Go.RowKit
set_option linter.unusedVariables false

def lord (c : UInt8) : Bool := WM.letter c || WM.dig c
theorem name_eq (l : List UInt8) : WM.name l = (l.all lord && WM.letter (l.headD 0) && decide (l.length ≤ 12)) := rfl

set_option maxHeartbeats 1000000 in
theorem name_any (s : ByteArray) (w : World) (hs : s.size ≤ 9223372036854775807) :
    Calls Tryd.prog 30 #[.string s] w fun e w' => e = .returned (.bool (WM.name (L s))) ∧ w = w' := by
  have HQ := name_eq (L s)
  generalize hv : WM.name (L s) = v at *
  clear hv
  rw [L_len] at HQ
  by_cases h0 : s.size = 0
  · rw [L_nil h0] at HQ
    have HN : Hid (v = false) := Lib.hid (by rw [HQ]; rfl)
    clear HQ
    have c0 : ((s.size : Int) == 0) = true := beq_t (by omega)
    go_enter Tryd.func30, Tryd.ntmps30
    go_wp2
    go_ret
    exact ⟨by rw [HN.out]; rfl, rfl⟩
  · have hp : 0 < s.size := by omega
    rw [L_head s hp] at HQ
    have c0 : ((s.size : Int) == 0) = false := beq_f (by omega)
    clear h0
    by_cases h1 : 12 < s.size
    · have HN : Hid (v = false) := Lib.hid (by
        rw [HQ, show decide (s.size ≤ 12) = false by simp; omega]; simp)
      clear HQ
      go_enter Tryd.func30, Tryd.ntmps30
      go_wp2
      go_ret
      exact ⟨by rw [HN.out]; rfl, rfl⟩
    · have e1 : decide (s.size ≤ 12) = true := by simp; omega
      rw [e1] at HQ
      clear e1
      cases hl : WM.letter s[0]
      · have HN : Hid (v = false) := Lib.hid (by rw [HQ, hl]; simp)
        clear HQ
        go_enter Tryd.func30, Tryd.ntmps30
        go_wp2_with (go_at_call 56; refine (isLetter_any _ _).mono ?_; rintro e w' ⟨rfl, rfl⟩)
        go_ret
        exact ⟨by rw [HN.out]; rfl, rfl⟩
      · have HN : Hid (v = (L s).all lord) := Lib.hid (by rw [HQ, hl]; simp)
        clear HQ
        go_enter Tryd.func30, Tryd.ntmps30
        go_wp2_with (go_at_call 56; refine (isLetter_any _ _).mono ?_; rintro e w' ⟨rfl, rfl⟩)
        go_loop [20] (fun i => ∃ k : Nat, k ≤ s.size ∧ i = .int .i64 k ∧ Hid (((L s).take k).all lord = true)) (fun i => s.size - (intOf i).toNat)
        case atStart => exact ⟨0, by omega, rfl, Lib.hid rfl⟩
        case round =>
          clear hl
          obtain ⟨k, hk, rfl, HA⟩ := hrel
          by_cases hlt : k < s.size
          · cases hl : WM.letter s[k]
            · cases hd : WM.dig s[k]
              · have HF := Lib.hid (all_not (p := lord) hlt (by unfold lord; rw [hl, hd]; rfl))
                go_wp2_with (first
                  | (go_at_call 56; refine (isLetter_any _ _).mono ?_; rintro e w' ⟨rfl, rfl⟩)
                  | (go_at_call 57; refine (isDigit_any _ _).mono ?_; rintro e w' ⟨rfl, rfl⟩))
                go_ret
                exact ⟨by rw [HN.out, HF.out]; rfl, rfl⟩
              · have HF := Lib.hid (all_step (p := lord) hlt HA.out (by unfold lord; rw [hl, hd]; rfl))
                go_wp2_with (first
                  | (go_at_call 56; refine (isLetter_any _ _).mono ?_; rintro e w' ⟨rfl, rfl⟩)
                  | (go_at_call 57; refine (isDigit_any _ _).mono ?_; rintro e w' ⟨rfl, rfl⟩))
                go_round
                case rel => exact ⟨k + 1, by omega, by go_num, HF⟩
                case measure => simp [intOf]; omega
            · have HF := Lib.hid (all_step (p := lord) hlt HA.out (by unfold lord; rw [hl]; rfl))
              go_wp2_with (first
                | (go_at_call 56; refine (isLetter_any _ _).mono ?_; rintro e w' ⟨rfl, rfl⟩)
                | (go_at_call 57; refine (isDigit_any _ _).mono ?_; rintro e w' ⟨rfl, rfl⟩))
              go_round
              case rel => exact ⟨k + 1, by omega, by go_num, HF⟩
              case measure => simp [intOf]; omega
          · obtain rfl : k = s.size := by omega
            have HE := HA.out
            rw [L_take_all] at HE
            have HE := Lib.hid HE
            go_wp2
            go_ret
            exact ⟨by rw [HN.out, HE.out]; rfl, rfl⟩

set_option maxHeartbeats 1000000 in
theorem rname_any (s : ByteArray) (w : World) (hs : s.size ≤ 9223372036854775807) :
    Calls Tryd.prog 15 #[.string s] w fun e w' => e = .returned (.bool (WM.name (L s))) ∧ w = w' := by
  have HQ := name_eq (L s)
  generalize hv : WM.name (L s) = v at *
  clear hv
  rw [L_len] at HQ
  have HQ' := Lib.hid HQ
  clear HQ
  have HQ := HQ'
  clear HQ'
  go_enter Tryd.func15, Tryd.ntmps15
  go_wp2
  go_loop [3] (fun i => ∃ k : Nat, k ≤ s.size ∧ i = .int .i64 k ∧ Hid (((L s).take k).all lord = true) ∧ Hid (∀ h : 0 < s.size, 0 < k → WM.letter s[0] = true)) (fun i => s.size - (intOf i).toNat)
  case atStart => exact ⟨0, by omega, rfl, Lib.hid rfl, Lib.hid (fun _ h => by omega)⟩
  case round =>
    obtain ⟨k, hk, rfl, HA, HB⟩ := hrel
    by_cases hlt : k < s.size
    · have hp : 0 < s.size := by omega
      have H0 := Lib.hid (L_head s hp)
      cases hl : WM.letter s[k]
      · by_cases hk0 : k = 0
        · subst hk0
          have HN : Hid (v = false) := Lib.hid (by rw [HQ.out, H0.out, hl]; simp)
          rcases WM.letter_false.1 hl with h | h
          · clear hl
            go_wp2
            go_ret
            exact ⟨by rw [HN.out]; rfl, rfl⟩
          · clear hl
            have h2 : 97 ≤ (s[0].toNat : Int) := by omega
            have h3 : decide ((s[0].toNat : Int) ≤ 122) = false := decide_eq_false (by omega)
            go_wp2
            go_ret
            exact ⟨by rw [HN.out]; rfl, rfl⟩
        · have ck : ((k : Int) == 0) = false := by simp; omega
          have HL := Lib.hid (HB.out hp (by omega))
          cases hd : WM.dig s[k]
          · have HF := all_not (p := lord) hlt (by unfold lord; rw [hl, hd]; rfl)
            have HN : Hid (v = false) := Lib.hid (by rw [HQ.out, HF]; simp)
            clear HF
            rcases WM.letter_false.1 hl with h | h
            · rcases WM.dig_false.1 hd with h' | h'
              · clear hl hd
                go_wp2
                go_ret
                exact ⟨by rw [HN.out]; rfl, rfl⟩
              · clear hl hd
                have h4 : decide ((s[k].toNat : Int) < 48) = false := decide_eq_false (by omega)
                go_wp2
                go_ret
                exact ⟨by rw [HN.out]; rfl, rfl⟩
            · have h' : 57 < (s[k].toNat : Int) := by omega
              have h2 : 97 ≤ (s[k].toNat : Int) := by omega
              have h3 : decide ((s[k].toNat : Int) ≤ 122) = false := decide_eq_false (by omega)
              have h4 : decide ((s[k].toNat : Int) < 48) = false := decide_eq_false (by omega)
              clear hl hd
              go_wp2
              go_ret
              exact ⟨by rw [HN.out]; rfl, rfl⟩
          · have HF := Lib.hid (all_step (p := lord) hlt HA.out (by unfold lord; rw [hl, hd]; rfl))
            obtain ⟨d1, d2⟩ := WM.dig_true.1 hd
            have d3 : (s[k].toNat : Int) < 97 := by omega
            clear hl hd
            go_wp2
            go_round
            case rel => exact ⟨k + 1, by omega, by go_num, HF, Lib.hid (fun _ _ => HL.out)⟩
            case measure => simp [intOf]; omega
      · have HF := Lib.hid (all_step (p := lord) hlt HA.out (by unfold lord; rw [hl]; rfl))
        obtain ⟨d1, d2⟩ := WM.letter_true.1 hl
        have HL : Hid (WM.letter s[0] = true) := Lib.hid (by
          by_cases hk0 : k = 0
          · subst hk0; exact hl
          · exact HB.out hp (by omega))
        clear hl
        go_wp2
        go_round
        case rel => exact ⟨k + 1, by omega, by go_num, HF, Lib.hid (fun _ _ => HL.out)⟩
        case measure => simp [intOf]; omega
    · obtain rfl : k = s.size := by omega
      have HE := HA.out
      rw [L_take_all] at HE
      have HE := Lib.hid HE
      by_cases h0 : s.size = 0
      · have HN : Hid (v = false) := Lib.hid (by rw [HQ.out, L_nil h0]; rfl)
        have c0 : decide (0 < s.size) = false := decide_eq_false (by omega)
        go_wp2
        go_ret
        exact ⟨by rw [HN.out]; rfl, rfl⟩
      · have hp : 0 < s.size := by omega
        have HN : Hid (v = decide (s.size ≤ 12)) := Lib.hid (by rw [HQ.out, HE.out, L_head s hp, HB.out hp hp]; simp)
        by_cases h1 : s.size ≤ 12
        · have HM : Hid (v = true) := Lib.hid (by rw [HN.out]; simpa using h1)
          go_wp2
          go_ret
          exact ⟨by rw [HM.out]; first | rfl | (simp_all; omega), rfl⟩
        · have HM : Hid (v = false) := Lib.hid (by rw [HN.out]; simpa using h1)
          have c1 : decide (s.size ≤ 12) = false := by simpa using h1
          go_wp2
          go_ret
          exact ⟨by rw [HM.out]; first | rfl | (simp_all; omega), rfl⟩
end Go.Proofs.YtiohainnpjikpaaDoor

/- Strings out of bytes. -/
namespace Go.Proofs.YtiohainnpjikpaaDoor
open Go.RowKit

theorem lit_bytes (w : World) (cs : List UInt8) (fr : Nat × Nat) (hl : cs.length ≤ maxLen) : Bytes (w.alloc (.cells (cs.map byteV).toArray 5 fr)) (some ⟨w.heap.size, 0, none⟩) cs := by
  refine ⟨by rw [List.length_map]; exact hl, .inr ⟨w.heap.size, 0, rfl, by simp, fun i hi => ?_⟩⟩
  rw [Nat.zero_add, World.cell?_alloc_mark]
  simp

/-- 'string(b)' -/
theorem str_of {w : World} {A : Option Addr} {l : List UInt8} (h : Bytes w A l) (cap : Nat) : (convert 94 9 (.slice A l.length cap)).run Tryd.prog w = .ok (.string (S l)) w := by
  cases A with
  | none =>
    have : l = [] := by
      rcases h.2 with h0 | ⟨b, off, e, _⟩
      · simpa using h0
      · cases e
    subst this
    rw [run_convert_bytes_string w 94 9 5 none _ cap Tryd.underlying94 Tryd.underlying5 Tryd.underlying9]
    rfl
  | some ad =>
    refine run_convert_bytes_back w 94 9 5 ad cap l Tryd.underlying94 Tryd.underlying5 Tryd.underlying9 ?_
    intro j hj
    rcases h.2 with h0 | ⟨b, off, e, hb, hcell⟩
    · have : l = [] := by simpa using h0
      subst this
      simp at hj
    · injection e with e
      subst e
      have e : (⟨b, off, none⟩ : Addr).add j = ⟨b, off + j, none⟩ := by
        unfold Addr.add
        by_cases h0 : j = 0
        · subst h0; simp
        · simp [h0]
      rw [e, hcell j (by simpa using hj)]
      simp [List.getElem?_eq_getElem hj, byteV]
end Go.Proofs.YtiohainnpjikpaaDoor

/- Rows of bytes that the call itself makes; strings out of bytes. -/
namespace Go.Proofs.YtiohainnpjikpaaDoor
open Go.RowKit
set_option maxRecDepth 100000

theorem info_u8 : (Tryd.prog.info? 5).map (fun i => (i.zero, i.size, i.bytes)) = some (some (.int .u8 0), 1, 1) := by kernel_rfl
theorem info_str : (Tryd.prog.info? 9).map (fun i => (i.zero, i.size, i.bytes)) = some (some (.string ⟨#[]⟩), 1, 16) := by kernel_rfl

/-- the slice v, in memory from block B on, holds the bytes l -/
def OB (w : World) (B : Nat) (v : Value) (l : List UInt8) : Prop := OwnV w B 5 v (l.map byteV)
theorem OB.nil (w : World) (B : Nat) : OB w B (.slice none 0 0) [] := OwnV.nil w B _
theorem OB.below {w w' : World} {B : Nat} {v : Value} {l : List UInt8} (h : OB w B v l) (hb : Below w.heap.size w w') : OB w' B v l := OwnV.below h hb
theorem OB.drewN {w : World} {B : Nat} {v : Value} {l : List UInt8} (h : OB w B v l) (n : Nat) : OB (w.drewN n) B v l := h
theorem OB.alloc {w : World} {B : Nat} {v : Value} {l : List UInt8} (h : OB w B v l) (o : Obj) : OB (w.alloc o) B v l := OwnV.alloc h o
theorem OB.bytes {w : World} {B : Nat} {v : Value} {l : List UInt8} (h : OB w B v l) : ∃ A cap, v = .slice A l.length cap ∧ Bytes w A l := by
  obtain ⟨A, cap, e, hv⟩ := OwnV.vals h
  rw [List.length_map] at e
  exact ⟨A, cap, e, hv⟩
theorem OB.len {w : World} {B : Nat} {v : Value} {l : List UInt8} (h : OB w B v l) : l.length ≤ 9223372036854775807 := by have := OwnV.len h; rw [List.length_map] at this; exact this

theorem byteV_one (l : List UInt8) : ∀ u ∈ l.map byteV, u.oneCell' = true := by
  intro u hu
  obtain ⟨c, _, rfl⟩ := List.mem_map.1 hu
  rfl

/-- 'b = append(b, s...)', s a string -/
theorem wpList_catS {ops : Array Oper} {rest : List Oper} {o : Oper} {a : Act} {Q : Exit → Act → World → Prop} (w : World) (B : Nat) (l : List UInt8) (s : ByteArray) (x y : Operand)
    (hgd : o.guard = none) (ho : o.op = .call { callee := .builtin .append, args := #[x, y], argTypes := #[94, 9] })
    (v : Value) (hs : a.eval x = v) (hx : a.eval y = .string s) (hown : OB w B v l) (hl : l.length + s.size ≤ 140737488355328) (hB : B ≤ w.heap.size)
    (h : ∀ v' w', OB w' B v' (l ++ L s) → Below B w w' → w.grownBy w' v.ownBlock → wpList Tryd.prog ops Q rest (a.put o.dst v') w') :
    wpList Tryd.prog ops Q (o :: rest) a w := by
  obtain ⟨i0, hi, hz0, hz1, hz2⟩ := info_parts info_u8
  have hc : Lib.strCells s = (L s).map byteV := rfl
  refine Lib.wpList_append_own_string w hgd x y 94 9 ho B 5 i0 Tryd.underlying94 Tryd.underlying9 hi hz0 hz1 hz2 v (l.map byteV).length (l.map byteV) hs hown s hx ?_ ?_ hB ?_
  · rw [List.length_map]; unfold maxLen; omega
  · rw [List.length_map]; exact hl
  · intro v' w' h1 h2 _
    refine h v' w' ?_ ((Below.refl B w).grown h2 hB (OwnV.block hown)) h2
    unfold OB OwnV
    rw [hc] at h1
    have el : (List.map byteV (L s)).length = s.size := by rw [List.length_map, L_len]
    rw [List.map_append, List.length_append, el]
    exact h1

theorem run_catB (w : World) (B : Nat) (l m : List UInt8) (ty : TypeId) (v : Value) (hown : OB w B v l) (A : Option Addr) (c : Nat) (hm : Bytes w A m) (hl : l.length + m.length ≤ 140737488355328) (hB : B ≤ w.heap.size) :
    ∃ v' w', (Builtin.append_ #[94, 94] ty #[v, .slice A m.length c]).run Tryd.prog w = .ok v' w' ∧ OB w' B v' (l ++ m) ∧ w.grownBy w' v.ownBlock := by
  obtain ⟨i0, hi, hz0, hz1, hz2⟩ := info_parts info_u8
  have key : ∀ ad, A = some ad → ∃ v' w', (Builtin.append_ #[94, 94] ty #[v, .slice A m.length c]).run Tryd.prog w = .ok v' w' ∧ OB w' B v' (l ++ m) ∧ w.grownBy w' v.ownBlock := by
    rintro ad rfl
    have hcells : ∀ j u, (m.map byteV)[j]? = some u → w.cell? (ad.add j) = some u := by
      intro j u hu
      rcases hm.2 with h0 | ⟨b, off, e, hb, hcell⟩
      · have : m = [] := by simpa using h0
        subst this
        simp at hu
      · injection e with e
        subst e
        have hj : j < (m.map byteV).length := by
          rcases Nat.lt_or_ge j (m.map byteV).length with h | h
          · exact h
          · rw [List.getElem?_eq_none h] at hu; cases hu
        have e : (⟨b, off, none⟩ : Addr).add j = ⟨b, off + j, none⟩ := by
          unfold Addr.add
          by_cases h0 : j = 0
          · subst h0; simp
          · simp [h0]
        rw [e, hcell j hj, hu]
    obtain ⟨v', w', hr, h2, h3, _, _⟩ := run_append_own_at (P := Tryd.prog) w B 94 ty 5 i0 (.int .u8 0) 1 1 Tryd.underlying94 hi hz0 hz1 hz2 rfl (by decide) v (l.map byteV).length (l.map byteV) hown ad m.length c (m.map byteV)
      (by simp) hcells (byteV_one m) (by rw [List.length_map]; unfold maxLen; omega) (by rw [List.length_map]; omega) hB
    refine ⟨v', w', hr, ?_, h3⟩
    unfold OB OwnV
    have el : (List.map byteV m).length = m.length := List.length_map _
    rw [List.map_append, List.length_append, el]
    exact h2
  cases A with
  | some ad => exact key ad rfl
  | none =>
    have : m = [] := by
      rcases hm.2 with h0 | ⟨b, off, e, _⟩
      · simpa using h0
      · cases e
    subst this
    refine ⟨v, w, ?_, by simpa using hown, World.grownBy.refl w _⟩
    rcases hown.2 with ⟨rfl, h0⟩ | ⟨g, cap, cur, rfl, _, _, hnc, _⟩
    · simp [Builtin.append_, run_underlying Tryd.underlying94, sizeOf, typeInfo, hi, Builtin.lenOf, Builtin.firstCells]
    · simp [Builtin.append_, run_underlying Tryd.underlying94, sizeOf, typeInfo, hi, Builtin.lenOf, Builtin.firstCells, storeCells]
      simp at hnc
      omega

/-- 'b = append(b, c...)', c a slice of bytes -/
theorem wpList_catB {ops : Array Oper} {rest : List Oper} {o : Oper} {a : Act} {Q : Exit → Act → World → Prop} (w : World) (B : Nat) (l m : List UInt8) (x y : Operand)
    (hgd : o.guard = none) (ho : o.op = .call { callee := .builtin .append, args := #[x, y], argTypes := #[94, 94] })
    (v : Value) (A : Option Addr) (n c : Nat) (hs : a.eval x = v) (hx : a.eval y = .slice A n c) (hn : n = m.length) (hown : OB w B v l) (hm : Bytes w A m) (hl : l.length + m.length ≤ 140737488355328) (hB : B ≤ w.heap.size)
    (h : ∀ v' w', OB w' B v' (l ++ m) → Below B w w' → w.grownBy w' v.ownBlock → wpList Tryd.prog ops Q rest (a.put o.dst v') w') :
    wpList Tryd.prog ops Q (o :: rest) a w := by
  subst hn
  obtain ⟨v', w', hr, h2, h3⟩ := run_catB w B l m o.type v hown A c hm hl hB
  refine wpList_plain hgd fun K hK => ?_
  unfold Oper.wp execOp
  simp only [ho, resolve, invoke, builtin, Sem.run_bind, Sem.run_pure, Result.andThen_ok, List.map_toArray, List.map_cons, List.map_nil, hs, hx, hr]
  exact hK _ _ (h v' w' h2 ((Below.refl B w).grown h3 hB (OwnV.block hown)) h3)

/-- 'b = append(b, c)', one byte in a block just made -/
theorem wpList_pushB {ops : Array Oper} {rest : List Oper} {o : Oper} {a : Act} {Q : Exit → Act → World → Prop} (w : World) (c : UInt8) (n : Int) (hn : n = (c.toNat : Int)) (B : Nat) (l : List UInt8) (x y : Operand)
    (hgd : o.guard = none) (ho : o.op = .call { callee := .builtin .append, args := #[x, y], argTypes := #[94, 94] })
    (v : Value) (hs : a.eval x = v) (hx : a.eval y = .slice (some ⟨w.heap.size, 0, none⟩) 1 1) (hown : OB w B v l) (hl : l.length + 1 ≤ 140737488355328) (hB : B ≤ w.heap.size)
    (h : ∀ v' w', OB w' B v' (l ++ [c]) → Below B w w' → w.grownBy w' v.ownBlock → wpList Tryd.prog ops Q rest (a.put o.dst v') w') :
    wpList Tryd.prog ops Q (o :: rest) a (w.alloc (.cells #[.int .u8 n] 5)) := by
  subst hn
  refine wpList_pushV w (byteV c) rfl B (l.map byteV) x y 94 5 1 (.int .u8 0) Tryd.underlying94 info_u8 rfl hgd ho v hs hx hown ?_ ?_ hB ?_
  · rw [List.length_map]; omega
  · rw [List.length_map]; unfold maxLen; omega
  · intro v' w' h1 h2 _ h4
    exact h v' w' (by unfold OB; rw [List.map_append]; exact h1) h2 h4

/-- 's = append(s, t)', one string in a block just made -/
def OS (w : World) (B : Nat) (v : Value) (l : List ByteArray) : Prop := OwnV w B 9 v (l.map Value.string)
theorem OS.nil (w : World) (B : Nat) : OS w B (.slice none 0 0) [] := OwnV.nil w B _
theorem OS.below {w w' : World} {B : Nat} {v : Value} {l : List ByteArray} (h : OS w B v l) (hb : Below w.heap.size w w') : OS w' B v l := OwnV.below h hb
theorem OS.drewN {w : World} {B : Nat} {v : Value} {l : List ByteArray} (h : OS w B v l) (n : Nat) : OS (w.drewN n) B v l := h
theorem OS.strs {w : World} {B : Nat} {v : Value} {l : List ByteArray} (h : OS w B v l) (hs : ∀ s ∈ l, s.size ≤ maxLen) : ∃ A cap, v = .slice A l.length cap ∧ Strs w A l := by
  obtain ⟨A, cap, e, hv⟩ := OwnV.vals h
  rw [List.length_map] at e
  exact ⟨A, cap, e, hv, hs⟩
theorem wpList_pushS {ops : Array Oper} {rest : List Oper} {o : Oper} {a : Act} {Q : Exit → Act → World → Prop} (w : World) (s : ByteArray) (B : Nat) (l : List ByteArray) (x y : Operand)
    (hgd : o.guard = none) (ho : o.op = .call { callee := .builtin .append, args := #[x, y], argTypes := #[54, 54] })
    (v : Value) (hs : a.eval x = v) (hx : a.eval y = .slice (some ⟨w.heap.size, 0, none⟩) 1 1) (hown : OS w B v l) (hl : l.length + 1 ≤ 8796093022208) (hB : B ≤ w.heap.size)
    (h : ∀ v' w', OS w' B v' (l ++ [s]) → Below B w w' → w.grownBy w' v.ownBlock → wpList Tryd.prog ops Q rest (a.put o.dst v') w') :
    wpList Tryd.prog ops Q (o :: rest) a (w.alloc (.cells #[.string s] 9)) := by
  refine wpList_pushV w (.string s) rfl B (l.map Value.string) x y 54 9 16 (.string ⟨#[]⟩) Tryd.underlying54 info_str rfl hgd ho v hs hx hown ?_ ?_ hB ?_
  · rw [List.length_map]; omega
  · rw [List.length_map]; unfold maxLen; omega
  · intro v' w' h1 h2 _ h4
    exact h v' w' (by unfold OS; rw [List.map_append]; exact h1) h2 h4

end Go.Proofs.YtiohainnpjikpaaDoor

/- Pieces put together, with something between. -/
namespace WM
set_option linter.unusedVariables false
def catL (b : List UInt8) : List (List UInt8) → List UInt8
  | [] => []
  | [p] => p
  | p :: q :: r => p ++ (b ++ catL b (q :: r))
theorem catL_snoc (b : List UInt8) (ps : List (List UInt8)) (q : List UInt8) (h : ps ≠ []) : catL b (ps ++ [q]) = catL b ps ++ b ++ q := by
  induction ps with
  | nil => exact absurd rfl h
  | cons p ps ih =>
    cases ps with
    | nil => simp [catL]
    | cons r rs =>
      have e := ih (by simp)
      show p ++ (b ++ catL b (r :: rs ++ [q])) = (p ++ (b ++ catL b (r :: rs))) ++ b ++ q
      rw [e]; simp
theorem catL_one (b q : List UInt8) : catL b ([] ++ [q]) = q := rfl
theorem catL_join (ps : List (List UInt8)) : catL [32] ps = joinL ps := by
  induction ps with
  | nil => rfl
  | cons p ps ih =>
    cases ps with
    | nil => rfl
    | cons r rs => show p ++ ([32] ++ catL [32] (r :: rs)) = p ++ 32 :: joinL (r :: rs); rw [ih]; rfl
theorem catL_two (p q : List UInt8) : catL [] [p, q] = p ++ q := rfl
theorem catL_four (p q r s : List UInt8) : catL [] [p, q, r, s] = p ++ (q ++ (r ++ s)) := rfl
/-- all lengths, each with b more -/
def tl (b : Nat) (ns : List Nat) : Nat := (ns.map (· + b)).sum
theorem tl_snoc (b : Nat) (ns : List Nat) (n : Nat) : tl b (ns ++ [n]) = tl b ns + (n + b) := by simp [tl]
theorem tl_take (b : Nat) (ns : List Nat) (k : Nat) : tl b (ns.take k) ≤ tl b ns := by
  have : tl b ns = tl b (ns.take k) + tl b (ns.drop k) := by
    unfold tl
    rw [← List.sum_append, ← List.map_append, List.take_append_drop]
  omega
theorem catL_len (b : List UInt8) (ps : List (List UInt8)) : (catL b ps).length ≤ tl b.length (ps.map List.length) := by
  induction ps with
  | nil => simp [catL]
  | cons p ps ih =>
    cases ps with
    | nil => simp [catL, tl]
    | cons r rs =>
      have e : tl b.length ((p :: r :: rs).map List.length) = p.length + b.length + tl b.length ((r :: rs).map List.length) := by
        unfold tl; rw [List.map_cons, List.map_cons, List.sum_cons]
      rw [e]
      show (p ++ (b ++ catL b (r :: rs))).length ≤ _
      rw [List.length_append, List.length_append]
      omega
end WM
