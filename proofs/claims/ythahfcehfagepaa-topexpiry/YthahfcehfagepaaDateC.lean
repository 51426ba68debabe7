/- Contracts: a day's date, the program's and the reference's. -/
import Derived.Test.YthahfcehfagepaaDateB
namespace Go.Proofs.Ythahfcehfagepaa
open Go.RowKit
set_option linter.unusedVariables false

theorem results_tmp4 {fn : Func} {t u v x : Tmp} (h : fn.results = #[.tmp t, .tmp u, .tmp v, .tmp x]) (tmps : Array Value) (P : Program) (w : World) :
    (results fn tmps).run P w = .ok (.tuple #[tmps.getD t undef, tmps.getD u undef, tmps.getD v undef, tmps.getD x undef]) w := by
  simp [results, h]

set_option maxHeartbeats 1000000 in
theorem split_any (day y m d : Int) (w : World) (h : DM.isDate day y m d) :
    Calls Try.prog 22 #[.int .i64 day] w fun e w' => e = .returned (.tuple #[.int .i64 y, .int .i64 m, .int .i64 d, .int .i64 0]) ∧ w = w' := by
  obtain ⟨e1, e2, e3, e4, e5⟩ := DM.split_day h
  have hy := DM.split_year h
  have hm := DM.split_month h
  have h0 := DM.split_start h
  obtain ⟨⟨p1, p2, p3, p4, p5, p6⟩, _⟩ := h
  have hid := DM.isd_true e4 e5
  generalize hK : (y - 2000).toNat = K at *
  generalize hJ : (m - 1).toNat = J at *
  have E1 := Lib.hid e1; have HY := Lib.hid hy; have HM := Lib.hid hm; have HKK := Lib.hid hK; have HJJ := Lib.hid hJ
  have HE2 := Lib.hid e2; have HE3 := Lib.hid e3
  have k199 : K ≤ 199 := by omega
  have j11 : J ≤ 11 := by omega
  have q1 : 0 ≤ day / 366 := by omega
  clear e1 hy hm hK hJ p6 e2 e3
  go_enter Try.func22, Try.ntmps22
  go_wp2_with (go_at_call 53; refine (isDayD_any _ _).mono ?_; rintro e w' ⟨rfl, rfl⟩)
  go_loop [2] (fun v => ∃ k : Nat, k ≤ K ∧ v = .int .i64 (2000 + (k : Int))) (fun v => (2200 - intOf v).toNat)
  case atStart => exact ⟨(day / 366).toNat, by omega, by congr 1; omega⟩
  case round =>
    obtain ⟨k, hk, rfl⟩ := hrel
    have C := fun ww => yearStart_any (2000 + (k : Int) + 1) ww (by omega) (by omega)
    rw [show (2000 + (k : Int) + 1 - 2000).toNat = k + 1 by omega] at C
    have hyk := HY.out k
    generalize DM.before (k + 1) = x at *
    have HC := Lib.hid C
    clear C
    by_cases hlt : x ≤ day
    · have hk1 := hyk.1 hlt
      clear hyk
      go_wp2_with fail
      refine (HC.out _).mono ?_
      rintro e w1 ⟨rfl, rfl⟩
      go_wp2
      go_round
      case rel => exact ⟨k + 1, by omega, by go_num⟩
      case measure => simp [intOf]; omega
    · have hkK : k = K := by
        rcases Nat.lt_or_ge k K with g | g
        · exact absurd (hyk.2 g) hlt
        · omega
      subst hkK
      clear hyk
      have C := fun ww => yearStart_any (2000 + (k : Int)) ww (by omega) (by omega)
      rw [show (2000 + (k : Int) - 2000).toNat = k by omega] at C
      have f1 := HE2.out
      have f2 := HE3.out
      have f3 := DM.before_range (k := k) (by omega)
      generalize DM.before k = B at *
      obtain ⟨f3, f4⟩ := f3
      have HC2 := Lib.hid C
      clear C
      have hyy : y = 2000 + (k : Int) := by have := HKK.out; omega
      subst hyy
      have c0 : DM.cum (2000 + (k : Int)) 0 = 0 := rfl
      have HS := Lib.hid (DM.cum_succ (2000 + (k : Int)))
      have HDR := Lib.hid (DM.dim_range (2000 + (k : Int)))
      have HCD := Lib.hid (fun m ww => days_any (2000 + (k : Int)) m ww)
      generalize DM.cum (2000 + (k : Int)) = cu at *
      generalize DM.dim (2000 + (k : Int)) = di at *
      have HC0 := Lib.hid c0
      clear c0
      go_wp2_with fail
      refine (HC.out _).mono ?_
      rintro e w1 ⟨rfl, rfl⟩
      go_wp2_with fail
      refine (HC2.out _).mono ?_
      rintro e w1 ⟨rfl, rfl⟩
      go_wp2
      go_loop [3, 6] (fun a b => ∃ j : Nat, ∃ r : Int, j ≤ J ∧ a = .int .i64 ((j : Int) + 1) ∧ b = .int .i64 r ∧ 0 ≤ r ∧ r ≤ 366 ∧ Hid (r = day - B - cu j)) (fun a _ => (13 - intOf a).toNat)
      case atStart => exact ⟨0, day - B, by omega, rfl, rfl, f1, f2, Lib.hid (by rw [HC0.out]; omega)⟩
      case round =>
        obtain ⟨j, r, hj, rfl, rfl, r1, r2, HRR⟩ := hrel
        have g1 := HDR.out ((j : Int) + 1)
        have g2 := HS.out j
        have g3 := HM.out j
        have HN : Hid (r - di ((j : Int) + 1) = day - B - cu (j + 1)) := Lib.hid (by rw [HRR.out, g2]; omega)
        have HCJ := Lib.hid (fun ww => HCD.out ((j : Int) + 1) ww)
        rw [g2] at g3
        have g4 : di ((j : Int) + 1) ≤ r ↔ j < J := by rw [← g3, HRR.out]; omega
        clear g2 g3
        generalize di ((j : Int) + 1) = dj at *
        obtain ⟨g11, g12⟩ := g1
        by_cases hlt2 : dj ≤ r
        · have g5 := g4.1 hlt2
          clear g4
          go_wp2_with fail
          refine (HCJ.out _).mono ?_
          rintro e w1 ⟨rfl, rfl⟩
          go_wp2_with fail
          refine (HCJ.out _).mono ?_
          rintro e w1 ⟨rfl, rfl⟩
          go_wp2
          go_round
          case rel => exact ⟨j + 1, _, by omega, by go_num, rfl, by omega, by omega, HN⟩
          case measure => simp [intOf]; omega
        · have hjJ : j = J := by
            rcases Nat.lt_or_ge j J with g | g
            · exact absurd (g4.2 g) hlt2
            · omega
          subst hjJ
          clear g4
          have HQ : Hid (d = r + 1 ∧ m = (j : Int) + 1) := Lib.hid ⟨by rw [← E1.out, HRR.out], by have := HJJ.out; omega⟩
          go_wp2_with fail
          refine (HCJ.out _).mono ?_
          rintro e w1 ⟨rfl, rfl⟩
          go_wp2
          (try simp only [Exit.inBlock, Exit.then]); refine bodyPost_ret (results_tmp4 rfl _ _ _) rfl ?_
          exact ⟨by rw [HQ.out.1, HQ.out.2]; rfl, rfl⟩

theorem split_no (day : Int) (w : World) (h : day < 0 ∨ 73048 < day) :
    Calls Try.prog 22 #[.int .i64 day] w fun e w' => e = .returned (.tuple #[.int .i64 0, .int .i64 0, .int .i64 0, .int .i64 15]) ∧ w = w' := by
  have hid := DM.isd_false h
  clear h
  go_enter Try.func22, Try.ntmps22
  go_wp2_with (go_at_call 53; refine (isDayD_any _ _).mono ?_; rintro e w' ⟨rfl, rfl⟩)
  (try simp only [Exit.inBlock, Exit.then]); refine bodyPost_ret (results_tmp4 rfl _ _ _) rfl ?_
  exact ⟨rfl, rfl⟩
end Go.Proofs.Ythahfcehfagepaa
