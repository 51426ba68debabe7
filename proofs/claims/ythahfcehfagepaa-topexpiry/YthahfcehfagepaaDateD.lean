/- Contracts: two figures; a day's date by the reference. -/
import Derived.Test.YthahfcehfagepaaDateC
import Derived.Test.YthahfcehfagepaaStrOf
namespace Go.Proofs.Ythahfcehfagepaa
open Go.RowKit
set_option linter.unusedVariables false

theorem two_str (w : World) (n : Int) (h0 : 0 ≤ n) (h1 : n ≤ 99) :
    (convert 68 9 (.slice (some ⟨w.heap.size, 0, none⟩) 2 2)).run Try.prog (w.alloc (.cells #[.int .u8 (48 + n / 10), .int .u8 (48 + n % 10)] 5)) =
      .ok (.string (S [DM.ch (n / 10), DM.ch n])) (w.alloc (.cells #[.int .u8 (48 + n / 10), .int .u8 (48 + n % 10)] 5)) := by
  have hb := lit_bytes w [DM.ch (n / 10), DM.ch n] (0, 0) (by simp [maxLen])
  have e1 : ((DM.ch (n / 10)).toNat : Int) = 48 + n / 10 := by rw [DM.ch_toNat]; omega
  have e2 : ((DM.ch n).toNat : Int) = 48 + n % 10 := DM.ch_toNat n
  have := str_of hb 2
  simp only [List.map_cons, List.map_nil, byteV, e1, e2] at this
  exact this

set_option maxHeartbeats 1000000 in
theorem twoDigits_any (n : Int) (w : World) (h0 : 0 ≤ n) (h1 : n ≤ 99) :
    Calls Try.prog 54 #[.int .i64 n] w fun e w' => e = .returned (.string (S [DM.ch (n / 10), DM.ch n])) ∧ Below w.heap.size w w' := by
  have hs := two_str w n h0 h1
  generalize S [DM.ch (n / 10), DM.ch n] = t at *
  go_enter Try.func54, Try.ntmps54
  go_wp2
  go_ret
  exact ⟨rfl, (Below.refl _ _).alloc (Nat.le_refl _) _⟩

theorem fig_at {k : Int} (h0 : 0 ≤ k) (h1 : k ≤ 9) : L ((⟨#[48, 49, 50, 51, 52, 53, 54, 55, 56, 57]⟩ : ByteArray).extract k.toNat (k + 1).toNat) = [DM.ch k] := by
  rw [L_extract]
  have : k = 0 ∨ k = 1 ∨ k = 2 ∨ k = 3 ∨ k = 4 ∨ k = 5 ∨ k = 6 ∨ k = 7 ∨ k = 8 ∨ k = 9 := by omega
  rcases this with rfl | rfl | rfl | rfl | rfl | rfl | rfl | rfl | rfl | rfl <;> rfl
theorem ch_mod (n : Int) : DM.ch (n % 10) = DM.ch n := by unfold DM.ch; rw [Int.emod_emod]
theorem fig_two {n : Int} (h0 : 0 ≤ n) (h1 : n ≤ 99) :
    (⟨#[48, 49, 50, 51, 52, 53, 54, 55, 56, 57]⟩ : ByteArray).extract (n / 10 % 10).toNat (n / 10 % 10 + 1).toNat ++ (⟨#[48, 49, 50, 51, 52, 53, 54, 55, 56, 57]⟩ : ByteArray).extract (n % 10).toNat (n % 10 + 1).toNat = S [DM.ch (n / 10), DM.ch n] := by
  apply L_inj
  rw [L_append, L_S, fig_at (by omega) (by omega), fig_at (by omega) (by omega), ch_mod, ch_mod]
  rfl

set_option maxHeartbeats 1000000 in
theorem two_any (n : Int) (w : World) (h0 : 0 ≤ n) (h1 : n ≤ 99) :
    Calls Try.prog 55 #[.int .i64 n] w fun e w' => e = .returned (.string (S [DM.ch (n / 10), DM.ch n])) ∧ ∃ k, w' = w.drewN k := by
  have r1 : 0 ≤ n / 10 ∧ n / 10 ≤ 9 := by omega
  have r2 : 0 ≤ n % 10 ∧ n % 10 ≤ 9 := by omega
  have HF := Lib.hid (fig_two h0 h1)
  generalize S [DM.ch (n / 10), DM.ch n] = t at *
  obtain ⟨r1, r3⟩ := r1
  obtain ⟨r2, r4⟩ := r2
  go_enter Try.func55, Try.ntmps55
  go_wp2
  go_quiet (fail)
  go_wp2
  go_ret
  exact ⟨by rw [← HF.out]; rfl, _, rfl⟩

set_option maxHeartbeats 1000000 in
theorem rsplit_any (day y m d : Int) (w : World) (h : DM.isDate day y m d) :
    Calls Try.prog 23 #[.int .i64 day] w fun e w' => e = .returned (.tuple #[.int .i64 y, .int .i64 m, .int .i64 d, .int .i64 0]) ∧ w = w' := by
  obtain ⟨e1, e2, e3, e4, e5⟩ := DM.split_day h
  have hy := DM.split_year h
  have hm := DM.split_month h
  obtain ⟨⟨p1, p2, p3, p4, p5, p6⟩, _⟩ := h
  have hbs := DM.before_succ
  have b0 : DM.before 0 = 0 := rfl
  generalize hK : (y - 2000).toNat = K at *
  generalize hJ : (m - 1).toNat = J at *
  generalize DM.before = be at *
  have E1 := Lib.hid e1; have HY := Lib.hid hy; have HM := Lib.hid hm; have HKK := Lib.hid hK; have HJJ := Lib.hid hJ
  have HE2 := Lib.hid e2; have HE3 := Lib.hid e3; have HBS := Lib.hid hbs; have HB0 := Lib.hid b0
  have k199 : K ≤ 199 := by omega
  have j11 : J ≤ 11 := by omega
  clear e1 hy hm hK hJ p6 e2 e3 hbs b0
  go_enter Try.func23, Try.ntmps23
  go_wp2
  go_loop [0, 6, 7] (fun a v n => ∃ k : Nat, ∃ x : Int, k ≤ K ∧ a = .int .i64 x ∧ 0 ≤ x ∧ x ≤ 73048 ∧ v = .int .i64 (2000 + (k : Int)) ∧ Hid (x = day - be k)) (fun _ v _ => (2200 - intOf v).toNat)
  case atStart => exact ⟨0, day, by omega, rfl, e4, e5, rfl, Lib.hid (by rw [HB0.out]; omega)⟩
  case round =>
    obtain ⟨k, x, hk, rfl, x1, x2, rfl, HX⟩ := hrel
    have hyk := HY.out k
    rw [HBS.out k] at hyk
    have hyl : DM.ylen (2000 + (k : Int)) ≤ x ↔ k < K := by rw [← hyk, HX.out]; omega
    have HN : Hid (x - DM.ylen (2000 + (k : Int)) = day - be (k + 1)) := Lib.hid (by rw [HX.out, HBS.out k]; omega)
    clear hyk
    by_cases hlt : DM.ylen (2000 + (k : Int)) ≤ x
    · have hk1 := hyl.1 hlt
      clear hyl
      cases hl : DM.leap (2000 + (k : Int))
      · have hyy : DM.ylen (2000 + (k : Int)) = 365 := by unfold DM.ylen; rw [hl]; rfl
        rw [hyy] at hlt HN
        clear hyy
        go_wp2_with (go_at_call 18; refine (rleap_any _ _).mono ?_; rintro e w' ⟨rfl, rfl⟩)
        go_round
        case rel => exact ⟨k + 1, _, by omega, rfl, by omega, by omega, by go_num, HN⟩
        case measure => simp [intOf]; omega
      · have hyy : DM.ylen (2000 + (k : Int)) = 366 := by unfold DM.ylen; rw [hl]; rfl
        rw [hyy] at hlt HN
        clear hyy
        go_wp2_with (go_at_call 18; refine (rleap_any _ _).mono ?_; rintro e w' ⟨rfl, rfl⟩)
        go_round
        case rel => exact ⟨k + 1, _, by omega, rfl, by omega, by omega, by go_num, HN⟩
        case measure => simp [intOf]; omega
    · have hkK : k = K := by
        rcases Nat.lt_or_ge k K with g | g
        · exact absurd (hyl.2 g) hlt
        · omega
      subst hkK
      have hyy : y = 2000 + (k : Int) := by have := HKK.out; omega
      subst hyy
      have f1 := HE2.out
      have f2 := HE3.out
      have c0 : DM.cum (2000 + (k : Int)) 0 = 0 := rfl
      have HS := Lib.hid (DM.cum_succ (2000 + (k : Int)))
      have HDR := Lib.hid (DM.dim_range (2000 + (k : Int)))
      have HCD := Lib.hid (fun m ww => rdays_any (2000 + (k : Int)) m ww)
      generalize DM.cum (2000 + (k : Int)) = cu at *
      generalize DM.dim (2000 + (k : Int)) = di at *
      have HC0 := Lib.hid c0
      clear c0 hyl HN
      rw [← HX.out] at f1 f2
      cases hl : DM.leap (2000 + (k : Int))
      all_goals
        have hyy : DM.ylen (2000 + (k : Int)) = (if DM.leap (2000 + (k : Int)) = true then 366 else 365) := rfl
        rw [hl] at hyy
        simp only [Bool.false_eq_true, if_false, if_true] at hyy
        rw [hyy] at hlt
        clear hyy
        go_wp2_with (go_at_call 18; refine (rleap_any _ _).mono ?_; rintro e w' ⟨rfl, rfl⟩)
        go_loop [0, 8] (fun b a => ∃ j : Nat, ∃ r : Int, j ≤ J ∧ a = .int .i64 ((j : Int) + 1) ∧ b = .int .i64 r ∧ 0 ≤ r ∧ r ≤ 366 ∧ Hid (r = day - be k - cu j)) (fun _ a => (13 - intOf a).toNat)
        case atStart => exact ⟨0, x, by omega, rfl, rfl, f1, f2, Lib.hid (by rw [HC0.out, HX.out]; omega)⟩
        case round =>
          obtain ⟨j, r, hj, rfl, rfl, r1, r2, HRR⟩ := hrel
          have g1 := HDR.out ((j : Int) + 1)
          have g2 := HS.out j
          have g3 := HM.out j
          have HN : Hid (r - di ((j : Int) + 1) = day - be k - cu (j + 1)) := Lib.hid (by rw [HRR.out, g2]; omega)
          have HCJ := Lib.hid (fun ww => HCD.out ((j : Int) + 1) ww)
          rw [g2] at g3
          have g4 : di ((j : Int) + 1) ≤ r ↔ j < J := by rw [← g3, HRR.out]; omega
          clear g2 g3
          generalize di ((j : Int) + 1) = dj at *
          obtain ⟨g11, g12⟩ := g1
          by_cases hlt2 : dj ≤ r
          · have g5 := g4.1 hlt2
            clear g4
            go_wp2_with fail
            refine (HCJ.out _).mono ?_
            rintro e w1 ⟨rfl, rfl⟩
            go_wp2_with fail
            refine (HCJ.out _).mono ?_
            rintro e w1 ⟨rfl, rfl⟩
            go_wp2
            go_round
            case rel => exact ⟨j + 1, _, by omega, by go_num, rfl, by omega, by omega, HN⟩
            case measure => simp [intOf]; omega
          · have hjJ : j = J := by
              rcases Nat.lt_or_ge j J with g | g
              · exact absurd (g4.2 g) hlt2
              · omega
            subst hjJ
            clear g4
            have HQ : Hid (d = r + 1 ∧ m = (j : Int) + 1) := Lib.hid ⟨by rw [← E1.out, HRR.out], by have := HJJ.out; omega⟩
            go_wp2_with fail
            refine (HCJ.out _).mono ?_
            rintro e w1 ⟨rfl, rfl⟩
            go_wp2
            (try simp only [Exit.inBlock, Exit.then]); refine bodyPost_ret (results_tmp4 rfl _ _ _) rfl ?_
            exact ⟨by rw [HQ.out.1, HQ.out.2]; rfl, rfl⟩

theorem rsplit_no (day : Int) (w : World) (h : day < 0 ∨ 73048 < day) :
    Calls Try.prog 23 #[.int .i64 day] w fun e w' => e = .returned (.tuple #[.int .i64 0, .int .i64 0, .int .i64 0, .int .i64 15]) ∧ w = w' := by
  rcases h with h | h
  · go_enter Try.func23, Try.ntmps23
    go_wp2
    (try simp only [Exit.inBlock, Exit.then]); refine bodyPost_ret (results_tmp4 rfl _ _ _) rfl ?_
    exact ⟨rfl, rfl⟩
  · go_enter Try.func23, Try.ntmps23
    go_wp2
    (try simp only [Exit.inBlock, Exit.then]); refine bodyPost_ret (results_tmp4 rfl _ _ _) rfl ?_
    exact ⟨rfl, rfl⟩
end Go.Proofs.Ythahfcehfagepaa
