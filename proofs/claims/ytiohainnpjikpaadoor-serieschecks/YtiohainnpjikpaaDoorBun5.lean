/- Put together: DateC, DateD, DateE, DateMath3, DateMath5, DateF, DateG, OrderMath. -/
import Derived.Test.YtiohainnpjikpaaDoorBun4
import Derived.Test.YtiohainnpjikpaaDoorBun3
import Derived.Below
/- Contracts: a day's date, the program's and the reference's. -/
namespace Go.Proofs.YtiohainnpjikpaaDoor
open Go.RowKit
set_option linter.unusedVariables false

theorem results_tmp4 {fn : Func} {t u v x : Tmp} (h : fn.results = #[.tmp t, .tmp u, .tmp v, .tmp x]) (tmps : Array Value) (P : Program) (w : World) :
    (results fn tmps).run P w = .ok (.tuple #[tmps.getD t undef, tmps.getD u undef, tmps.getD v undef, tmps.getD x undef]) w := by
  simp [results, h]

set_option maxHeartbeats 1000000 in
theorem split_any (day y m d : Int) (w : World) (h : DM.isDate day y m d) :
    Calls Tryd.prog 65 #[.int .i64 day] w fun e w' => e = .returned (.tuple #[.int .i64 y, .int .i64 m, .int .i64 d, .int .i64 0]) ∧ w = w' := by
  obtain ⟨e1, e2, e3, e4, e5⟩ := DM.split_day h
  have hy := DM.split_year h
  have hm := DM.split_month h
  have h0 := DM.split_start h
  obtain ⟨⟨p1, p2, p3, p4, p5, p6⟩, _⟩ := h
  have hid := DM.isd_true e4 e5
  generalize hK : (y - 2000).toNat = K at *
  generalize hJ : (m - 1).toNat = J at *
  have E1 := Lib.hid e1; have HY := Lib.hid hy; have HM := Lib.hid hm; have HKK := Lib.hid hK; have HJJ := Lib.hid hJ
  have HE2 := Lib.hid e2; have HE3 := Lib.hid e3
  have k199 : K ≤ 199 := by omega
  have j11 : J ≤ 11 := by omega
  have q1 : 0 ≤ day / 366 := by omega
  clear e1 hy hm hK hJ p6 e2 e3
  go_enter Tryd.func65, Tryd.ntmps65
  go_wp2_with (go_at_call 89; refine (isDayD_any _ _).mono ?_; rintro e w' ⟨rfl, rfl⟩)
  go_loop [2] (fun v => ∃ k : Nat, k ≤ K ∧ v = .int .i64 (2000 + (k : Int))) (fun v => (2200 - intOf v).toNat)
  case atStart => exact ⟨(day / 366).toNat, by omega, by congr 1; omega⟩
  case round =>
    obtain ⟨k, hk, rfl⟩ := hrel
    have C := fun ww => yearStart_any (2000 + (k : Int) + 1) ww (by omega) (by omega)
    rw [show (2000 + (k : Int) + 1 - 2000).toNat = k + 1 by omega] at C
    have hyk := HY.out k
    generalize DM.before (k + 1) = x at *
    have HC := Lib.hid C
    clear C
    by_cases hlt : x ≤ day
    · have hk1 := hyk.1 hlt
      clear hyk
      go_wp2_with fail
      refine (HC.out _).mono ?_
      rintro e w1 ⟨rfl, rfl⟩
      go_wp2
      go_round
      case rel => exact ⟨k + 1, by omega, by go_num⟩
      case measure => simp [intOf]; omega
    · have hkK : k = K := by
        rcases Nat.lt_or_ge k K with g | g
        · exact absurd (hyk.2 g) hlt
        · omega
      subst hkK
      clear hyk
      have C := fun ww => yearStart_any (2000 + (k : Int)) ww (by omega) (by omega)
      rw [show (2000 + (k : Int) - 2000).toNat = k by omega] at C
      have f1 := HE2.out
      have f2 := HE3.out
      have f3 := DM.before_range (k := k) (by omega)
      generalize DM.before k = B at *
      obtain ⟨f3, f4⟩ := f3
      have HC2 := Lib.hid C
      clear C
      have hyy : y = 2000 + (k : Int) := by have := HKK.out; omega
      subst hyy
      have c0 : DM.cum (2000 + (k : Int)) 0 = 0 := rfl
      have HS := Lib.hid (DM.cum_succ (2000 + (k : Int)))
      have HDR := Lib.hid (DM.dim_range (2000 + (k : Int)))
      have HCD := Lib.hid (fun m ww => days_any (2000 + (k : Int)) m ww)
      generalize DM.cum (2000 + (k : Int)) = cu at *
      generalize DM.dim (2000 + (k : Int)) = di at *
      have HC0 := Lib.hid c0
      clear c0
      go_wp2_with fail
      refine (HC.out _).mono ?_
      rintro e w1 ⟨rfl, rfl⟩
      go_wp2_with fail
      refine (HC2.out _).mono ?_
      rintro e w1 ⟨rfl, rfl⟩
      go_wp2
      go_loop [3, 6] (fun a b => ∃ j : Nat, ∃ r : Int, j ≤ J ∧ a = .int .i64 ((j : Int) + 1) ∧ b = .int .i64 r ∧ 0 ≤ r ∧ r ≤ 366 ∧ Hid (r = day - B - cu j)) (fun a _ => (13 - intOf a).toNat)
      case atStart => exact ⟨0, day - B, by omega, rfl, rfl, f1, f2, Lib.hid (by rw [HC0.out]; omega)⟩
      case round =>
        obtain ⟨j, r, hj, rfl, rfl, r1, r2, HRR⟩ := hrel
        have g1 := HDR.out ((j : Int) + 1)
        have g2 := HS.out j
        have g3 := HM.out j
        have HN : Hid (r - di ((j : Int) + 1) = day - B - cu (j + 1)) := Lib.hid (by rw [HRR.out, g2]; omega)
        have HCJ := Lib.hid (fun ww => HCD.out ((j : Int) + 1) ww)
        rw [g2] at g3
        have g4 : di ((j : Int) + 1) ≤ r ↔ j < J := by rw [← g3, HRR.out]; omega
        clear g2 g3
        generalize di ((j : Int) + 1) = dj at *
        obtain ⟨g11, g12⟩ := g1
        by_cases hlt2 : dj ≤ r
        · have g5 := g4.1 hlt2
          clear g4
          go_wp2_with fail
          refine (HCJ.out _).mono ?_
          rintro e w1 ⟨rfl, rfl⟩
          go_wp2_with fail
          refine (HCJ.out _).mono ?_
          rintro e w1 ⟨rfl, rfl⟩
          go_wp2
          go_round
          case rel => exact ⟨j + 1, _, by omega, by go_num, rfl, by omega, by omega, HN⟩
          case measure => simp [intOf]; omega
        · have hjJ : j = J := by
            rcases Nat.lt_or_ge j J with g | g
            · exact absurd (g4.2 g) hlt2
            · omega
          subst hjJ
          clear g4
          have HQ : Hid (d = r + 1 ∧ m = (j : Int) + 1) := Lib.hid ⟨by rw [← E1.out, HRR.out], by have := HJJ.out; omega⟩
          go_wp2_with fail
          refine (HCJ.out _).mono ?_
          rintro e w1 ⟨rfl, rfl⟩
          go_wp2
          (try simp only [Exit.inBlock, Exit.then]); refine bodyPost_ret (results_tmp4 rfl _ _ _) rfl ?_
          exact ⟨by rw [HQ.out.1, HQ.out.2]; rfl, rfl⟩

theorem split_no (day : Int) (w : World) (h : day < 0 ∨ 73048 < day) :
    Calls Tryd.prog 65 #[.int .i64 day] w fun e w' => e = .returned (.tuple #[.int .i64 0, .int .i64 0, .int .i64 0, .int .i64 15]) ∧ w = w' := by
  have hid := DM.isd_false h
  clear h
  go_enter Tryd.func65, Tryd.ntmps65
  go_wp2_with (go_at_call 89; refine (isDayD_any _ _).mono ?_; rintro e w' ⟨rfl, rfl⟩)
  (try simp only [Exit.inBlock, Exit.then]); refine bodyPost_ret (results_tmp4 rfl _ _ _) rfl ?_
  exact ⟨rfl, rfl⟩
end Go.Proofs.YtiohainnpjikpaaDoor

/- Contracts: two figures; a day's date by the reference. -/
namespace Go.Proofs.YtiohainnpjikpaaDoor
open Go.RowKit
set_option linter.unusedVariables false

theorem two_str (w : World) (n : Int) (h0 : 0 ≤ n) (h1 : n ≤ 99) :
    (convert 94 9 (.slice (some ⟨w.heap.size, 0, none⟩) 2 2)).run Tryd.prog (w.alloc (.cells #[.int .u8 (48 + n / 10), .int .u8 (48 + n % 10)] 5)) =
      .ok (.string (S [DM.ch (n / 10), DM.ch n])) (w.alloc (.cells #[.int .u8 (48 + n / 10), .int .u8 (48 + n % 10)] 5)) := by
  have hb := lit_bytes w [DM.ch (n / 10), DM.ch n] (0, 0) (by simp [maxLen])
  have e1 : ((DM.ch (n / 10)).toNat : Int) = 48 + n / 10 := by rw [DM.ch_toNat]; omega
  have e2 : ((DM.ch n).toNat : Int) = 48 + n % 10 := DM.ch_toNat n
  have := str_of hb 2
  simp only [List.map_cons, List.map_nil, byteV, e1, e2] at this
  exact this

set_option maxHeartbeats 1000000 in
theorem twoDigits_any (n : Int) (w : World) (h0 : 0 ≤ n) (h1 : n ≤ 99) :
    Calls Tryd.prog 66 #[.int .i64 n] w fun e w' => e = .returned (.string (S [DM.ch (n / 10), DM.ch n])) ∧ Below w.heap.size w w' := by
  have hs := two_str w n h0 h1
  generalize S [DM.ch (n / 10), DM.ch n] = t at *
  go_enter Tryd.func66, Tryd.ntmps66
  go_wp2
  go_ret
  exact ⟨rfl, (Below.refl _ _).alloc (Nat.le_refl _) _⟩

theorem fig_at {k : Int} (h0 : 0 ≤ k) (h1 : k ≤ 9) : L ((⟨#[48, 49, 50, 51, 52, 53, 54, 55, 56, 57]⟩ : ByteArray).extract k.toNat (k + 1).toNat) = [DM.ch k] := by
  rw [L_extract]
  have : k = 0 ∨ k = 1 ∨ k = 2 ∨ k = 3 ∨ k = 4 ∨ k = 5 ∨ k = 6 ∨ k = 7 ∨ k = 8 ∨ k = 9 := by omega
  rcases this with rfl | rfl | rfl | rfl | rfl | rfl | rfl | rfl | rfl | rfl <;> rfl
theorem ch_mod (n : Int) : DM.ch (n % 10) = DM.ch n := by unfold DM.ch; rw [Int.emod_emod]
theorem fig_two {n : Int} (h0 : 0 ≤ n) (h1 : n ≤ 99) :
    (⟨#[48, 49, 50, 51, 52, 53, 54, 55, 56, 57]⟩ : ByteArray).extract (n / 10 % 10).toNat (n / 10 % 10 + 1).toNat ++ (⟨#[48, 49, 50, 51, 52, 53, 54, 55, 56, 57]⟩ : ByteArray).extract (n % 10).toNat (n % 10 + 1).toNat = S [DM.ch (n / 10), DM.ch n] := by
  apply L_inj
  rw [L_append, L_S, fig_at (by omega) (by omega), fig_at (by omega) (by omega), ch_mod, ch_mod]
  rfl

set_option maxHeartbeats 1000000 in
theorem rsplit_any (day y m d : Int) (w : World) (h : DM.isDate day y m d) :
    Calls Tryd.prog 40 #[.int .i64 day] w fun e w' => e = .returned (.tuple #[.int .i64 y, .int .i64 m, .int .i64 d, .int .i64 0]) ∧ w = w' := by
  obtain ⟨e1, e2, e3, e4, e5⟩ := DM.split_day h
  have hy := DM.split_year h
  have hm := DM.split_month h
  obtain ⟨⟨p1, p2, p3, p4, p5, p6⟩, _⟩ := h
  have hbs := DM.before_succ
  have b0 : DM.before 0 = 0 := rfl
  generalize hK : (y - 2000).toNat = K at *
  generalize hJ : (m - 1).toNat = J at *
  generalize DM.before = be at *
  have E1 := Lib.hid e1; have HY := Lib.hid hy; have HM := Lib.hid hm; have HKK := Lib.hid hK; have HJJ := Lib.hid hJ
  have HE2 := Lib.hid e2; have HE3 := Lib.hid e3; have HBS := Lib.hid hbs; have HB0 := Lib.hid b0
  have k199 : K ≤ 199 := by omega
  have j11 : J ≤ 11 := by omega
  clear e1 hy hm hK hJ p6 e2 e3 hbs b0
  go_enter Tryd.func40, Tryd.ntmps40
  go_wp2
  go_loop [0, 6, 7] (fun a v n => ∃ k : Nat, ∃ x : Int, k ≤ K ∧ a = .int .i64 x ∧ 0 ≤ x ∧ x ≤ 73048 ∧ v = .int .i64 (2000 + (k : Int)) ∧ Hid (x = day - be k)) (fun _ v _ => (2200 - intOf v).toNat)
  case atStart => exact ⟨0, day, by omega, rfl, e4, e5, rfl, Lib.hid (by rw [HB0.out]; omega)⟩
  case round =>
    obtain ⟨k, x, hk, rfl, x1, x2, rfl, HX⟩ := hrel
    have hyk := HY.out k
    rw [HBS.out k] at hyk
    have hyl : DM.ylen (2000 + (k : Int)) ≤ x ↔ k < K := by rw [← hyk, HX.out]; omega
    have HN : Hid (x - DM.ylen (2000 + (k : Int)) = day - be (k + 1)) := Lib.hid (by rw [HX.out, HBS.out k]; omega)
    clear hyk
    by_cases hlt : DM.ylen (2000 + (k : Int)) ≤ x
    · have hk1 := hyl.1 hlt
      clear hyl
      cases hl : DM.leap (2000 + (k : Int))
      · have hyy : DM.ylen (2000 + (k : Int)) = 365 := by unfold DM.ylen; rw [hl]; rfl
        rw [hyy] at hlt HN
        clear hyy
        go_wp2_with (go_at_call 61; refine (rleap_any _ _).mono ?_; rintro e w' ⟨rfl, rfl⟩)
        go_round
        case rel => exact ⟨k + 1, _, by omega, rfl, by omega, by omega, by go_num, HN⟩
        case measure => simp [intOf]; omega
      · have hyy : DM.ylen (2000 + (k : Int)) = 366 := by unfold DM.ylen; rw [hl]; rfl
        rw [hyy] at hlt HN
        clear hyy
        go_wp2_with (go_at_call 61; refine (rleap_any _ _).mono ?_; rintro e w' ⟨rfl, rfl⟩)
        go_round
        case rel => exact ⟨k + 1, _, by omega, rfl, by omega, by omega, by go_num, HN⟩
        case measure => simp [intOf]; omega
    · have hkK : k = K := by
        rcases Nat.lt_or_ge k K with g | g
        · exact absurd (hyl.2 g) hlt
        · omega
      subst hkK
      have hyy : y = 2000 + (k : Int) := by have := HKK.out; omega
      subst hyy
      have f1 := HE2.out
      have f2 := HE3.out
      have c0 : DM.cum (2000 + (k : Int)) 0 = 0 := rfl
      have HS := Lib.hid (DM.cum_succ (2000 + (k : Int)))
      have HDR := Lib.hid (DM.dim_range (2000 + (k : Int)))
      have HCD := Lib.hid (fun m ww => rdays_any (2000 + (k : Int)) m ww)
      generalize DM.cum (2000 + (k : Int)) = cu at *
      generalize DM.dim (2000 + (k : Int)) = di at *
      have HC0 := Lib.hid c0
      clear c0 hyl HN
      rw [← HX.out] at f1 f2
      cases hl : DM.leap (2000 + (k : Int))
      all_goals
        have hyy : DM.ylen (2000 + (k : Int)) = (if DM.leap (2000 + (k : Int)) = true then 366 else 365) := rfl
        rw [hl] at hyy
        simp only [Bool.false_eq_true, if_false, if_true] at hyy
        rw [hyy] at hlt
        clear hyy
        go_wp2_with (go_at_call 61; refine (rleap_any _ _).mono ?_; rintro e w' ⟨rfl, rfl⟩)
        go_loop [0, 8] (fun b a => ∃ j : Nat, ∃ r : Int, j ≤ J ∧ a = .int .i64 ((j : Int) + 1) ∧ b = .int .i64 r ∧ 0 ≤ r ∧ r ≤ 366 ∧ Hid (r = day - be k - cu j)) (fun _ a => (13 - intOf a).toNat)
        case atStart => exact ⟨0, x, by omega, rfl, rfl, f1, f2, Lib.hid (by rw [HC0.out, HX.out]; omega)⟩
        case round =>
          obtain ⟨j, r, hj, rfl, rfl, r1, r2, HRR⟩ := hrel
          have g1 := HDR.out ((j : Int) + 1)
          have g2 := HS.out j
          have g3 := HM.out j
          have HN : Hid (r - di ((j : Int) + 1) = day - be k - cu (j + 1)) := Lib.hid (by rw [HRR.out, g2]; omega)
          have HCJ := Lib.hid (fun ww => HCD.out ((j : Int) + 1) ww)
          rw [g2] at g3
          have g4 : di ((j : Int) + 1) ≤ r ↔ j < J := by rw [← g3, HRR.out]; omega
          clear g2 g3
          generalize di ((j : Int) + 1) = dj at *
          obtain ⟨g11, g12⟩ := g1
          by_cases hlt2 : dj ≤ r
          · have g5 := g4.1 hlt2
            clear g4
            go_wp2_with fail
            refine (HCJ.out _).mono ?_
            rintro e w1 ⟨rfl, rfl⟩
            go_wp2_with fail
            refine (HCJ.out _).mono ?_
            rintro e w1 ⟨rfl, rfl⟩
            go_wp2
            go_round
            case rel => exact ⟨j + 1, _, by omega, by go_num, rfl, by omega, by omega, HN⟩
            case measure => simp [intOf]; omega
          · have hjJ : j = J := by
              rcases Nat.lt_or_ge j J with g | g
              · exact absurd (g4.2 g) hlt2
              · omega
            subst hjJ
            clear g4
            have HQ : Hid (d = r + 1 ∧ m = (j : Int) + 1) := Lib.hid ⟨by rw [← E1.out, HRR.out], by have := HJJ.out; omega⟩
            go_wp2_with fail
            refine (HCJ.out _).mono ?_
            rintro e w1 ⟨rfl, rfl⟩
            go_wp2
            (try simp only [Exit.inBlock, Exit.then]); refine bodyPost_ret (results_tmp4 rfl _ _ _) rfl ?_
            exact ⟨by rw [HQ.out.1, HQ.out.2]; rfl, rfl⟩

theorem rsplit_no (day : Int) (w : World) (h : day < 0 ∨ 73048 < day) :
    Calls Tryd.prog 40 #[.int .i64 day] w fun e w' => e = .returned (.tuple #[.int .i64 0, .int .i64 0, .int .i64 0, .int .i64 15]) ∧ w = w' := by
  rcases h with h | h
  · go_enter Tryd.func40, Tryd.ntmps40
    go_wp2
    (try simp only [Exit.inBlock, Exit.then]); refine bodyPost_ret (results_tmp4 rfl _ _ _) rfl ?_
    exact ⟨rfl, rfl⟩
  · go_enter Tryd.func40, Tryd.ntmps40
    go_wp2
    (try simp only [Exit.inBlock, Exit.then]); refine bodyPost_ret (results_tmp4 rfl _ _ _) rfl ?_
    exact ⟨rfl, rfl⟩
end Go.Proofs.YtiohainnpjikpaaDoor

/- Contracts: a day's text. -/
namespace Go.Proofs.YtiohainnpjikpaaDoor
open Go.RowKit
set_option linter.unusedVariables false

theorem ch_of_mod {a b : Int} (h : a % 10 = b % 10) : DM.ch a = DM.ch b := by unfold DM.ch; rw [h]
theorem date_cat {y m d : Int} : S [DM.ch (y / 100 / 10), DM.ch (y / 100)] ++ S [DM.ch (y % 100 / 10), DM.ch (y % 100)] ++ ⟨#[45]⟩ ++ S [DM.ch (m / 10), DM.ch m] ++ ⟨#[45]⟩ ++ S [DM.ch (d / 10), DM.ch d] = S (DM.dateL y m d) := by
  apply L_inj
  rw [L_append, L_append, L_append, L_append, L_append, L_S, L_S, L_S, L_S, L_S]
  unfold DM.dateL
  rw [ch_of_mod (a := y / 100 / 10) (b := y / 1000) (by omega), ch_of_mod (a := y % 100 / 10) (b := y / 10) (by omega), ch_of_mod (a := y % 100) (b := y) (by omega)]
  rfl

set_option maxHeartbeats 1000000 in
theorem print_any (day y m d : Int) (w : World) (h : DM.isDate day y m d) :
    Calls Tryd.prog 37 #[.int .i64 day] w fun e w' => e = .returned (.string (S (DM.dateL y m d))) ∧ Below w.heap.size w w' := by
  have CS := split_any day y m d w h
  rw [← date_cat]
  obtain ⟨⟨p1, p2, p3, p4, p5, p6⟩, _⟩ := h
  have d31 := (DM.dim_range y m).2
  have C1 := fun ww => twoDigits_any (y / 100) ww (by omega) (by omega)
  have C2 := fun ww => twoDigits_any (y % 100) ww (by omega) (by omega)
  have C3 := fun ww => twoDigits_any m ww (by omega) (by omega)
  have C4 := fun ww => twoDigits_any d ww (by omega) (by omega)
  have s1 : (S [DM.ch (y / 100 / 10), DM.ch (y / 100)]).size ≤ 2 := Nat.le_of_eq (S_size _)
  generalize S [DM.ch (y / 100 / 10), DM.ch (y / 100)] = t1 at *
  have s2 : (S [DM.ch (y % 100 / 10), DM.ch (y % 100)]).size ≤ 2 := Nat.le_of_eq (S_size _)
  generalize S [DM.ch (y % 100 / 10), DM.ch (y % 100)] = t2 at *
  have s3 : (S [DM.ch (m / 10), DM.ch m]).size ≤ 2 := Nat.le_of_eq (S_size _)
  generalize S [DM.ch (m / 10), DM.ch m] = t3 at *
  have s4 : (S [DM.ch (d / 10), DM.ch d]).size ≤ 2 := Nat.le_of_eq (S_size _)
  generalize S [DM.ch (d / 10), DM.ch d] = t4 at *
  have HS := Lib.hid CS; have H1 := Lib.hid C1; have H2 := Lib.hid C2; have H3 := Lib.hid C3; have H4 := Lib.hid C4
  clear CS C1 C2 C3 C4
  go_enter Tryd.func37, Tryd.ntmps37
  go_wp2_with fail
  refine HS.out.mono ?_
  rintro e w1 ⟨rfl, rfl⟩
  go_wp2_with fail
  refine (H1.out _).mono ?_
  rintro e w1 ⟨rfl, b1⟩
  have B1 := Lib.hid b1
  clear b1
  go_wp2_with fail
  refine (H2.out _).mono ?_
  rintro e w2 ⟨rfl, b2⟩
  have B2 := Lib.hid (B1.out.trans (b2.mono B1.out.size))
  clear b2 B1
  go_wp2_with fail
  refine (H3.out _).mono ?_
  rintro e w3 ⟨rfl, b3⟩
  have B3 := Lib.hid (B2.out.trans (b3.mono B2.out.size))
  clear b3 B2
  go_wp2_with fail
  refine (H4.out _).mono ?_
  rintro e w4 ⟨rfl, b4⟩
  have B4 := Lib.hid (B3.out.trans (b4.mono B3.out.size))
  clear b4 B3
  go_wp2
  go_ret
  exact ⟨rfl, B4.out⟩

theorem print_no (day : Int) (w : World) (h : day < 0 ∨ 73048 < day) :
    Calls Tryd.prog 37 #[.int .i64 day] w fun e w' => e = .returned (.string ⟨#[]⟩) ∧ w = w' := by
  have HS := Lib.hid (split_no day w h)
  clear h
  go_enter Tryd.func37, Tryd.ntmps37
  go_wp2_with fail
  refine HS.out.mono ?_
  rintro e w1 ⟨rfl, rfl⟩
  go_wp2
  go_ret
  exact ⟨rfl, rfl⟩

end Go.Proofs.YtiohainnpjikpaaDoor

/- Dates' texts rise with the days. -/
namespace DM
set_option linter.unusedVariables false
open Go

theorem ls_same (c : UInt8) (x y : List UInt8) : Op.bytesLess (c :: x) (c :: y) = Op.bytesLess x y := by
  have h : ¬ c < c := by intro h; have := UInt8.lt_iff_toNat_lt.1 h; omega
  simp [Op.bytesLess, h]
theorem ls_lt {a b : Int} (h : a % 10 < b % 10) (x y : List UInt8) : Op.bytesLess (ch a :: x) (ch b :: y) = true := by
  have h1 := ch_toNat a
  have h2 := ch_toNat b
  have : ch a < ch b := UInt8.lt_iff_toNat_lt.2 (by omega)
  simp [Op.bytesLess, this]
theorem ch_eq {a b : Int} (h : a % 10 = b % 10) : ch a = ch b := ch_of (ch_isD b) (by rw [ch_dv, h])
theorem ls_eq {a b : Int} (h : a % 10 = b % 10) (x y : List UInt8) : Op.bytesLess (ch a :: x) (ch b :: y) = Op.bytesLess x y := by rw [ch_eq h, ls_same]
theorem ls_two {a b : Int} (h0 : 0 ≤ a) (h : a < b) (hb : b ≤ 99) (x y : List UInt8) : Op.bytesLess (ch (a / 10) :: ch a :: x) (ch (b / 10) :: ch b :: y) = true := by
  by_cases h1 : a / 10 < b / 10
  · exact ls_lt (by omega) _ _
  · rw [ls_eq (by omega)]; exact ls_lt (by omega) _ _
theorem ls_four {a b : Int} (h0 : 0 ≤ a) (h : a < b) (hb : b ≤ 9999) (x y : List UInt8) : Op.bytesLess (ch (a / 1000) :: ch (a / 100) :: ch (a / 10) :: ch a :: x) (ch (b / 1000) :: ch (b / 100) :: ch (b / 10) :: ch b :: y) = true := by
  by_cases h1 : a / 1000 < b / 1000
  · exact ls_lt (by omega) _ _
  · rw [ls_eq (by omega)]
    by_cases h2 : a / 100 < b / 100
    · exact ls_lt (by omega) _ _
    · rw [ls_eq (by omega)]
      by_cases h3 : a / 10 < b / 10
      · exact ls_lt (by omega) _ _
      · rw [ls_eq (by omega)]; exact ls_lt (by omega) _ _
theorem dateL_less {y m d y' m' d' : Int} (h : okDate y m d) (h' : okDate y' m' d') (hl : y < y' ∨ (y = y' ∧ (m < m' ∨ (m = m' ∧ d < d')))) : Op.bytesLess (dateL y m d) (dateL y' m' d') = true := by
  obtain ⟨p1, p2, p3, p4, p5, p6⟩ := h
  obtain ⟨q1, q2, q3, q4, q5, q6⟩ := h'
  have r := (dim_range y m).2
  have r' := (dim_range y' m').2
  unfold dateL
  rcases hl with hl | ⟨rfl, hl⟩
  · exact ls_four (by omega) hl (by omega) _ _
  · rw [ls_same, ls_same, ls_same, ls_same, ls_same]
    rcases hl with hl | ⟨rfl, hl⟩
    · exact ls_two (by omega) hl (by omega) _ _
    · rw [ls_same, ls_same, ls_same]
      exact ls_two (by omega) hl (by omega) _ _
theorem ls_asymm : ∀ (x y : List UInt8), Op.bytesLess x y = true → Op.bytesLess y x = false ∧ x ≠ y := by
  intro x
  induction x with
  | nil =>
    intro y h
    cases y with
    | nil => cases h
    | cons b y => exact ⟨rfl, by simp⟩
  | cons a x ih =>
    intro y h
    cases y with
    | nil => cases h
    | cons b y =>
      by_cases e : a = b
      · subst e
        rw [ls_same] at h ⊢
        obtain ⟨h1, h2⟩ := ih y h
        exact ⟨h1, by simpa using h2⟩
      · have hn : a.toNat ≠ b.toNat := fun h => e (UInt8.toNat.inj h)
        have hab : a < b := by
          simp [Op.bytesLess, e] at h
          exact h
        have := UInt8.lt_iff_toNat_lt.1 hab
        have hba : ¬ b < a := by intro h; have := UInt8.lt_iff_toNat_lt.1 h; omega
        exact ⟨by simp [Op.bytesLess, hba, Ne.symm e], by simp [e]⟩
/-- the next day's text is the greater one -/
theorem dateL_next {day y m d y' m' d' : Int} (h : isDate day y m d) (h' : isDate (day + 1) y' m' d') (hl : day < 73048) : Op.bytesLess (dateL y m d) (dateL y' m' d') = true := by
  obtain ⟨e1, e2, e3⟩ := isDate_unique (isDate_next h hl) h'
  refine dateL_less h.1 h'.1 ?_
  by_cases c1 : d < dim y m
  · simp only [c1, if_true] at e1 e2 e3
    right; refine ⟨e1, .inr ⟨e2, by omega⟩⟩
  · by_cases c2 : m < 12
    · simp only [c1, c2, if_false, if_true] at e1 e2 e3
      right; exact ⟨e1, .inl (by omega)⟩
    · simp only [c1, c2, if_false] at e1 e2 e3
      left; omega
end DM

/- A date's form, byte by byte. -/
namespace DM
set_option linter.unusedVariables false

def okAt (i : Nat) (c : UInt8) : Bool := if i = 4 ∨ i = 7 then c == 45 else decide (isD c)
def okUpTo (s : List UInt8) (k : Nat) : Prop := ∀ i, i < k → okAt i (s.getD i 0) = true
def formB (s : List UInt8) : Bool := decide (s.length = 10) && (List.range 10).all (fun i => okAt i (s.getD i 0))
theorem ten {α : Type} (s : List α) (h : s.length = 10) : ∃ a b c d e f g h i j, s = [a, b, c, d, e, f, g, h, i, j] := by
  match s, h with
  | [a, b, c, d, e, f, g, h, i, j], _ => exact ⟨a, b, c, d, e, f, g, h, i, j, rfl⟩
theorem formB_true {s : List UInt8} : formB s = true ↔ form s := by
  unfold formB
  simp only [Bool.and_eq_true, decide_eq_true_eq, List.all_eq_true, List.mem_range]
  constructor
  · rintro ⟨h, h2⟩
    obtain ⟨a, b, c, d, e, f, g, h, i, j, rfl⟩ := ten s h
    have k0 := h2 0 (by omega); have k1 := h2 1 (by omega); have k2 := h2 2 (by omega); have k3 := h2 3 (by omega); have k4 := h2 4 (by omega)
    have k5 := h2 5 (by omega); have k6 := h2 6 (by omega); have k7 := h2 7 (by omega); have k8 := h2 8 (by omega); have k9 := h2 9 (by omega)
    simp [okAt] at k0 k1 k2 k3 k4 k5 k6 k7 k8 k9
    subst k4 k7
    exact ⟨a, b, c, d, f, g, i, j, rfl, k0, k1, k2, k3, k5, k6, k8, k9⟩
  · rintro ⟨a, b, c, d, e, f, g, h, rfl, k0, k1, k2, k3, k5, k6, k8, k9⟩
    refine ⟨rfl, ?_⟩
    intro i hi
    have : i = 0 ∨ i = 1 ∨ i = 2 ∨ i = 3 ∨ i = 4 ∨ i = 5 ∨ i = 6 ∨ i = 7 ∨ i = 8 ∨ i = 9 := by omega
    rcases this with rfl | rfl | rfl | rfl | rfl | rfl | rfl | rfl | rfl | rfl <;> simp [okAt, k0, k1, k2, k3, k5, k6, k8, k9]
theorem formB_false {s : List UInt8} : formB s = false ↔ ¬ form s := by rw [← formB_true]; simp
theorem formB_len {s : List UInt8} (h : s.length ≠ 10) : formB s = false := by unfold formB; simp [h]
theorem formB_no {s : List UInt8} {k : Nat} (hk : k < 10) (h : okAt k (s.getD k 0) = false) : formB s = false := by
  cases e : formB s with
  | false => rfl
  | true =>
    unfold formB at e
    simp only [Bool.and_eq_true, decide_eq_true_eq, List.all_eq_true, List.mem_range] at e
    rw [e.2 k hk] at h; cases h
theorem formB_all {s : List UInt8} (hl : s.length = 10) (h : okUpTo s 10) : formB s = true := by
  unfold formB
  simp only [Bool.and_eq_true, decide_eq_true_eq, List.all_eq_true, List.mem_range]
  exact ⟨hl, fun i hi => h i hi⟩
theorem okUpTo_succ {s : List UInt8} {k : Nat} (h : okUpTo s k) (hk : okAt k (s.getD k 0) = true) : okUpTo s (k + 1) := by
  intro i hi
  rcases Nat.lt_or_ge i k with g | g
  · exact h i g
  · rw [show i = k by omega]; exact hk
def parE (s : List UInt8) : Int := if formB s = true then ofE (yearOf s) (monthOf s) (dayIn s) else 5
def parN (s : List UInt8) : Int := if formB s = true then ofN (yearOf s) (monthOf s) (dayIn s) else 0
/-- what is read is the day whose text it is -/
theorem par_back {s : List UInt8} (h : parE s = 0) : isDate (parN s) (yearOf s) (monthOf s) (dayIn s) ∧ dateL (yearOf s) (monthOf s) (dayIn s) = s := by
  unfold parE at h
  cases hf : formB s with
  | false => rw [hf] at h; simp at h
  | true =>
    rw [hf] at h
    simp only [if_true] at h
    have hok : okDate (yearOf s) (monthOf s) (dayIn s) := by
      unfold ofE at h; split at h
      · assumption
      · omega
    refine ⟨⟨hok, ?_⟩, (form_read (formB_true.1 hf)).1⟩
    unfold parN
    rw [hf]
    simp only [if_true]
    unfold ofN; rw [if_pos hok]
/-- a day's text is read as that day -/
theorem par_text {day y m d : Int} (h : isDate day y m d) : parN (dateL y m d) = day ∧ parE (dateL y m d) = 0 := by
  obtain ⟨h1, e⟩ := h
  have r := (dim_range y m).2
  obtain ⟨p1, p2, p3, p4, p5, p6⟩ := h1
  obtain ⟨a, b, c⟩ := dateL_read (y := y) (m := m) (d := d) (by omega) (by omega) (by omega)
  unfold parN parE
  rw [formB_true.2 (dateL_form y m d), if_pos rfl, if_pos rfl, a, b, c]
  unfold ofN ofE
  rw [if_pos ⟨p1, p2, p3, p4, p5, p6⟩, if_pos ⟨p1, p2, p3, p4, p5, p6⟩]
  exact ⟨e, rfl⟩
end DM

/- Contracts: a date's text read. -/
namespace Go.Proofs.YtiohainnpjikpaaDoor
open Go.RowKit
set_option linter.unusedVariables false

theorem pat_d {k : Nat} (h : k < (⟨#[100, 100, 100, 100, 45, 100, 100, 45, 100, 100]⟩ : ByteArray).size) (h4 : k ≠ 4) (h7 : k ≠ 7) :
    (((⟨#[100, 100, 100, 100, 45, 100, 100, 45, 100, 100]⟩ : ByteArray)[k]).toNat : Int) = 100 := by
  have h10 : k < 10 := h
  have : k = 0 ∨ k = 1 ∨ k = 2 ∨ k = 3 ∨ k = 5 ∨ k = 6 ∨ k = 8 ∨ k = 9 := by omega
  rcases this with rfl | rfl | rfl | rfl | rfl | rfl | rfl | rfl <;> rfl
theorem pat_m {k : Nat} (h : k < (⟨#[100, 100, 100, 100, 45, 100, 100, 45, 100, 100]⟩ : ByteArray).size) (h4 : k = 4 ∨ k = 7) :
    (((⟨#[100, 100, 100, 100, 45, 100, 100, 45, 100, 100]⟩ : ByteArray)[k]).toNat : Int) = 45 := by
  rcases h4 with rfl | rfl <;> rfl
theorem getD_at_ (s : ByteArray) (k : Nat) (h : k < s.size) : (L s).getD k 0 = s[k] := by
  rw [← L_get s k h]
  simp [List.getD, List.getElem?_eq_getElem (show k < (L s).length by rw [L_len]; exact h)]
theorem okAt_d {k : Nat} (h4 : k ≠ 4) (h7 : k ≠ 7) (c : UInt8) : (DM.okAt k c = true ↔ 48 ≤ (c.toNat : Int) ∧ (c.toNat : Int) ≤ 57) := by
  unfold DM.okAt
  rw [if_neg (by omega)]
  rw [decide_eq_true_iff]
  unfold DM.isD
  omega
theorem okAt_m {k : Nat} (h4 : k = 4 ∨ k = 7) (c : UInt8) : DM.okAt k c = ((c.toNat : Int) == 45) := by
  unfold DM.okAt
  rw [if_pos h4, Bool.eq_iff_iff, beq_iff_eq, beq_iff_eq, ← UInt8.toNat_inj]
  have : (45 : UInt8).toNat = 45 := rfl
  omega

set_option maxHeartbeats 1000000 in
theorem formed_any (s : ByteArray) (w : World) (hs : s.size ≤ 9223372036854775807) :
    Calls Tryd.prog 83 #[.string s] w fun e w' => e = .returned (.bool (DM.formB (L s))) ∧ ∃ k, w' = w.drewN k := by
  generalize hv : DM.formB (L s) = v
  have HV := Lib.hid hv
  clear hv
  by_cases hl : s.size = 10
  · have hl2 : ((s.size : Int) != 10) = false := by simp; omega
    have HL := Lib.hid hl
    have hl3 : 10 ≤ s.size := by omega
    clear hl
    go_enter Tryd.func83, Tryd.ntmps83
    go_wp2
    go_loopw [7] (fun i wr => ∃ k n : Nat, k ≤ 10 ∧ i = .int .i64 k ∧ wr = w.drewN n ∧ Hid (DM.okUpTo (L s) k)) (fun i _ => 10 - (intOf i).toNat)
    case atStart => exact ⟨0, 0, by omega, rfl, rfl, Lib.hid (fun i hi => by omega)⟩
    case round =>
      obtain ⟨k, n, hk, rfl, rfl, HK⟩ := hrel
      by_cases hlt : k < 10
      · have hks : k < s.size := by omega
        have HG := Lib.hid (getD_at_ s k hks)
        have hkp : k < (⟨#[100, 100, 100, 100, 45, 100, 100, 45, 100, 100]⟩ : ByteArray).size := hlt
        by_cases hd : k = 4 ∨ k = 7
        · have hp := pat_m hkp hd
          have ho := okAt_m hd s[k]
          cases hb : ((s[k].toNat : Int) == 45)
          · have HN := Lib.hid (DM.formB_no hlt (by rw [HG.out, ho, hb]))
            have hb2 : ((s[k].toNat : Int) != 45) = true := by simp [bne, hb]
            clear ho hd hb
            go_wp2
            go_quiet (fail)
            go_wp2
            go_ret
            exact ⟨by rw [← HV.out, HN.out]; rfl, _, World.drewN_drewN _ _ _⟩
          · have HN := Lib.hid (DM.okUpTo_succ HK.out (by rw [HG.out, ho, hb]))
            have hb2 : ((s[k].toNat : Int) != 45) = false := by simp [bne, hb]
            clear ho hd hb
            go_wp2
            go_quiet (fail)
            go_wp2
            go_roundw
            case rel => exact ⟨k + 1, _, by omega, by go_num, rfl, HN⟩
            case measure => simp [intOf]; omega
        · have hp := pat_d hkp (by omega) (by omega)
          have ho := okAt_d (k := k) (by omega) (by omega) s[k]
          clear hd
          by_cases h1 : 48 ≤ (s[k].toNat : Int)
          · by_cases h2 : (s[k].toNat : Int) ≤ 57
            · have HN := Lib.hid (DM.okUpTo_succ HK.out (by rw [HG.out]; exact ho.2 ⟨h1, h2⟩))
              clear ho
              go_wp2
              go_roundw
              case rel => exact ⟨k + 1, _, by omega, by go_num, rfl, HN⟩
              case measure => simp [intOf]; omega
            · have HN := Lib.hid (DM.formB_no hlt (by
                rw [HG.out]
                cases e : DM.okAt k s[k] with
                | false => rfl
                | true => exact absurd (ho.1 e).2 h2))
              clear ho
              go_wp2
              go_ret
              exact ⟨by rw [← HV.out, HN.out]; rfl, _, rfl⟩
          · have HN := Lib.hid (DM.formB_no hlt (by
              rw [HG.out]
              cases e : DM.okAt k s[k] with
              | false => rfl
              | true => exact absurd (ho.1 e).1 h1))
            clear ho
            go_wp2
            go_ret
            exact ⟨by rw [← HV.out, HN.out]; rfl, _, rfl⟩
      · obtain rfl : k = 10 := by omega
        have HN := Lib.hid (DM.formB_all (by rw [L_len]; exact HL.out) HK.out)
        go_wp2
        go_ret
        exact ⟨by rw [← HV.out, HN.out]; rfl, _, rfl⟩
  · have HN := Lib.hid (DM.formB_len (s := L s) (by rw [L_len]; exact hl))
    have hl2 : ((s.size : Int) != 10) = true := by simp; omega
    clear hl
    go_enter Tryd.func83, Tryd.ntmps83
    go_wp2
    go_ret
    exact ⟨by rw [← HV.out, HN.out]; rfl, 0, rfl⟩

/-! figures -/
theorem dgo_snoc (l : List UInt8) (c : UInt8) : ∀ n : Int, l.all (fun c => decide (DM.isD c)) = true → DM.dgo n (l ++ [c]) = if DM.isD c then 10 * DM.dgo n l + DM.dv c else -1 := by
  induction l with
  | nil => intro n _; rfl
  | cons a t ih =>
    intro n h
    simp only [List.all_cons, Bool.and_eq_true, decide_eq_true_eq] at h
    show (if DM.isD a then DM.dgo (10 * n + DM.dv a) (t ++ [c]) else -1) = _
    rw [if_pos h.1, ih _ h.2]
    show _ = if DM.isD c then 10 * (if DM.isD a then DM.dgo (10 * n + DM.dv a) t else -1) + DM.dv c else -1
    rw [if_pos h.1]
theorem dgo_bad (l : List UInt8) (k : Nat) (hk : k < l.length) (h : ¬ DM.isD l[k]) : ∀ n : Int, DM.dgo n l = -1 := by
  induction l generalizing k with
  | nil => simp at hk
  | cons a t ih =>
    intro n
    show (if DM.isD a then DM.dgo (10 * n + DM.dv a) t else -1) = -1
    by_cases ha : DM.isD a
    · rw [if_pos ha]
      cases k with
      | zero => exact absurd ha h
      | succ k => exact ih k (by simpa using hk) (by simpa using h) _
    · rw [if_neg ha]
theorem dgo_range (l : List UInt8) : ∀ n : Int, 0 ≤ n → l.all (fun c => decide (DM.isD c)) = true → l.length ≤ 4 → ∀ m : Int, n < m → DM.dgo n l < m * 10 ^ l.length ∧ 0 ≤ DM.dgo n l := by
  induction l with
  | nil => intro n h _ _ m hm; simp [DM.dgo]; omega
  | cons a t ih =>
    intro n h ha hl m hm
    simp only [List.all_cons, Bool.and_eq_true, decide_eq_true_eq] at ha
    have r := DM.dv_range ha.1
    show (if DM.isD a then DM.dgo (10 * n + DM.dv a) t else -1) < _ ∧ 0 ≤ (if DM.isD a then DM.dgo (10 * n + DM.dv a) t else -1)
    rw [if_pos ha.1]
    have := ih (10 * n + DM.dv a) (by omega) ha.2 (by simp at hl; omega) (m * 10) (by omega)
    rw [List.length_cons, Int.pow_succ, Int.mul_comm (10 ^ t.length) 10, ← Int.mul_assoc]
    exact this
theorem dgo_small {l : List UInt8} (ha : l.all (fun c => decide (DM.isD c)) = true) (hl : l.length ≤ 4) : 0 ≤ DM.dgo 0 l ∧ DM.dgo 0 l ≤ 9999 := by
  have h := dgo_range l 0 (by omega) ha hl 1 (by omega)
  have : l.length = 0 ∨ l.length = 1 ∨ l.length = 2 ∨ l.length = 3 ∨ l.length = 4 := by omega
  rcases this with e | e | e | e | e <;> rw [e] at h <;> omega
theorem all_take_ {p : UInt8 → Bool} {l : List UInt8} (h : l.all p = true) (k : Nat) : (l.take k).all p = true := by
  rw [List.all_eq_true] at h ⊢
  exact fun x hx => h x (List.mem_of_mem_take hx)

set_option maxHeartbeats 1000000 in
theorem number5_any (s : ByteArray) (w : World) (hs : s.size ≤ 4) (ha : (L s).all (fun c => decide (DM.isD c)) = true) :
    Calls Tryd.prog 85 #[.string s] w fun e w' => e = .returned (.int .i64 (DM.dgo 0 (L s))) ∧ w = w' := by
  generalize hv : DM.dgo 0 (L s) = v
  have HV := Lib.hid hv
  have HA := Lib.hid ha
  clear hv ha
  go_enter Tryd.func85, Tryd.ntmps85
  go_wp2
  go_loop [2, 6] (fun n i => ∃ k : Nat, ∃ x : Int, k ≤ s.size ∧ i = .int .i64 k ∧ n = .int .i64 x ∧ 0 ≤ x ∧ x ≤ 9999 ∧ Hid (DM.dgo 0 ((L s).take k) = x)) (fun _ i => s.size - (intOf i).toNat)
  case atStart => exact ⟨0, 0, by omega, rfl, rfl, by omega, by omega, Lib.hid rfl⟩
  case round =>
    obtain ⟨k, x, hk, rfl, rfl, x1, x2, HX⟩ := hrel
    by_cases hlt : k < s.size
    · have hst := dgo_snoc ((L s).take k) s[k] 0 (all_take_ HA.out k)
      have hd : DM.isD s[k] := by
        have := HA.out
        rw [List.all_eq_true] at this
        have h2 := this s[k] (by rw [← L_get s k hlt]; exact List.getElem_mem _)
        simpa using h2
      rw [if_pos hd, HX.out, ← L_take_succ s k hlt] at hst
      have hr := dgo_small (all_take_ HA.out (k + 1)) (by rw [List.length_take]; omega)
      rw [hst] at hr
      unfold DM.isD at hd
      unfold DM.dv at hst hr
      obtain ⟨hr1, hr2⟩ := hr
      obtain ⟨d1, d2⟩ := hd
      have e1 : 48 ≤ (s[k].toNat : Int) := by omega
      have e2 : (s[k].toNat : Int) ≤ 57 := by omega
      have HST := Lib.hid hst
      clear hst d1 d2
      go_wp2
      go_round
      case rel => exact ⟨k + 1, _, by omega, by go_num, rfl, hr1, hr2, HST⟩
      case measure => simp [intOf]; omega
    · obtain rfl : k = s.size := by omega
      have HE := HX.out
      rw [L_take_all] at HE
      have HE := Lib.hid HE
      go_wp2
      go_ret
      exact ⟨by rw [← HV.out, HE.out]; rfl, rfl⟩

end Go.Proofs.YtiohainnpjikpaaDoor

/- Contracts: Parse, the program's and the reference's. -/
namespace Go.Proofs.YtiohainnpjikpaaDoor
open Go.RowKit
set_option linter.unusedVariables false

/-- a contract that leaves the world alone, inside a region that draws -/
theorem quietly {P : Program} {f : FuncId} {args : Array Value} {w : World} {n : Nat} {v : Value}
    (h : Calls P f args (w.drewN n) fun e w' => e = .returned v ∧ w.drewN n = w') : Calls P f args (w.drewN n) fun e w'' => e = .returned v ∧ ∃ m, w'' = w.drewN m :=
  h.mono fun _ _ ⟨he, hm⟩ => ⟨he, n, hm.symm⟩

def dAll (l : List UInt8) : Bool := l.all (fun c => decide (DM.isD c))

/-- the three runs of a text of ten bytes -/
theorem parts_ten (s : ByteArray) (hl : s.size = 10) : (L (s.extract 0 4) = (L s).take 4 ∧ L (s.extract 5 7) = ((L s).drop 5).take 2 ∧ L (s.extract 8 10) = (L s).drop 8) ∧
    ((s.extract 0 4).size ≤ 4 ∧ (s.extract 5 7).size ≤ 4 ∧ (s.extract 8 10).size ≤ 4) := by
  have hL := L_len s
  refine ⟨⟨?_, ?_, ?_⟩, ?_, ?_, ?_⟩
  · rw [L_extract]; rfl
  · rw [L_extract, List.drop_take]
  · rw [L_extract, List.take_of_length_le (by omega)]
  · rw [ByteArray.size_extract]; omega
  · rw [ByteArray.size_extract]; omega
  · rw [ByteArray.size_extract]; omega
theorem form_parts {l : List UInt8} (h : DM.form l) : dAll (l.take 4) = true ∧ dAll ((l.drop 5).take 2) = true ∧ dAll (l.drop 8) = true := by
  obtain ⟨a, b, c, d, e, f, g, h, rfl, ha, hb, hc, hd, he, hf, hg, hh⟩ := h
  simp [dAll, ha, hb, hc, hd, he, hf, hg, hh]
theorem form_len {l : List UInt8} (h : DM.form l) : l.length = 10 := by
  obtain ⟨a, b, c, d, e, f, g, h, rfl, _⟩ := h
  rfl

set_option maxHeartbeats 1000000 in
theorem parse_any (s : ByteArray) (w : World) (hs : s.size ≤ 9223372036854775807) :
    Calls Tryd.prog 58 #[.string s] w fun e w' => e = .returned (.tuple #[.int .i64 (DM.parN (L s)), .int .i64 (DM.parE (L s))]) ∧ ∃ n, w' = w.drewN n := by
  have CF := formed_any s w hs
  generalize hn : DM.parN (L s) = rn
  generalize he : DM.parE (L s) = re
  unfold DM.parN at hn
  unfold DM.parE at he
  cases hf : DM.formB (L s)
  · rw [hf] at hn he CF
    simp only [Bool.false_eq_true, if_false] at hn he
    subst hn he
    have HCF := Lib.hid CF
    clear CF hf
    go_enter Tryd.func58, Tryd.ntmps58
    go_wp2_with fail
    refine HCF.out.mono ?_
    rintro e w1 ⟨rfl, n1, rfl⟩
    go_wp2
    go_ret2
    exact ⟨rfl, _, rfl⟩
  · rw [hf] at hn he CF
    simp only [if_true] at hn he
    have hfo := DM.formB_true.1 hf
    have hsz : s.size = 10 := by rw [← L_len]; exact form_len hfo
    obtain ⟨⟨p1, p2, p3⟩, q1, q2, q3⟩ := parts_ten s hsz
    obtain ⟨f1, f2, f3⟩ := form_parts hfo
    have HF : Hid (∀ t : ByteArray, (t = s.extract 0 4 ∨ t = s.extract 5 7 ∨ t = s.extract 8 10) → t.size ≤ 4 ∧ (L t).all (fun c => decide (DM.isD c)) = true) := Lib.hid (by
      rintro t (rfl | rfl | rfl)
      · exact ⟨q1, by rw [p1]; exact f1⟩
      · exact ⟨q2, by rw [p2]; exact f2⟩
      · exact ⟨q3, by rw [p3]; exact f3⟩)
    unfold DM.yearOf DM.monthOf DM.dayIn at hn he
    rw [← p1, ← p2, ← p3] at hn he
    have HN := Lib.hid hn; have HE := Lib.hid he
    have HCF := Lib.hid CF
    have h10 : (10 : Int) ≤ (s.size : Int) := by omega
    have h4 : (4 : Int) ≤ (s.size : Int) := by omega
    have h7 : (7 : Int) ≤ (s.size : Int) := by omega
    clear CF hf hn he hfo hsz p1 p2 p3 q1 q2 q3 f1 f2 f3
    go_enter Tryd.func58, Tryd.ntmps58
    go_wp2_with fail
    refine HCF.out.mono ?_
    rintro e w1 ⟨rfl, n1, hw1⟩
    have HW1 := Lib.hid hw1
    clear hw1
    go_wp2
    go_quiet (first
      | (go_at_call 85; exact quietly (number5_any _ _ (HF.out _ (by simp)).1 (HF.out _ (by simp)).2))
      | (go_at_call 84; exact quietly (of_any _ _ _ _)))
    go_wp2
    go_ret2
    exact ⟨by rw [← HN.out, ← HE.out]; rfl, _, by rw [HW1.out]; exact World.drewN_drewN _ _ _⟩
end Go.Proofs.YtiohainnpjikpaaDoor

/- Texts in order: the model's own order of bytes is a total order. -/
namespace OM
open Go
theorem bl_irrefl : ∀ x : List UInt8, Op.bytesLess x x = false
  | [] => rfl
  | a :: x => by
    simp [Op.bytesLess, bl_irrefl x]
theorem bl_trans : ∀ x y z : List UInt8, Op.bytesLess x y = true → Op.bytesLess y z = true → Op.bytesLess x z = true
  | [], [], z, h, _ => by simp [Op.bytesLess] at h
  | [], _ :: _, [], _, h => by simp [Op.bytesLess] at h
  | [], _ :: _, _ :: _, _, _ => by simp [Op.bytesLess]
  | _ :: _, [], _, h, _ => by simp [Op.bytesLess] at h
  | _ :: _, _ :: _, [], _, h => by simp [Op.bytesLess] at h
  | a :: x, b :: y, c :: z, h1, h2 => by
    simp only [Op.bytesLess, Bool.or_eq_true, decide_eq_true_eq, Bool.and_eq_true, beq_iff_eq] at h1 h2 ⊢
    rcases h1 with h1 | ⟨rfl, h1⟩
    · rcases h2 with h2 | ⟨rfl, h2⟩
      · left; rw [UInt8.lt_iff_toNat_lt] at *; omega
      · left; exact h1
    · rcases h2 with h2 | ⟨rfl, h2⟩
      · left; exact h2
      · right; exact ⟨rfl, bl_trans x y z h1 h2⟩
theorem bl_asymm {x y : List UInt8} (h : Op.bytesLess x y = true) : Op.bytesLess y x = false := by
  cases e : Op.bytesLess y x
  · rfl
  · have := bl_trans _ _ _ h e
    rw [bl_irrefl] at this; cases this
theorem bl_tri : ∀ x y : List UInt8, Op.bytesLess x y = true ∨ x = y ∨ Op.bytesLess y x = true
  | [], [] => .inr (.inl rfl)
  | [], _ :: _ => .inl (by simp [Op.bytesLess])
  | _ :: _, [] => .inr (.inr (by simp [Op.bytesLess]))
  | a :: x, b :: y => by
    simp only [Op.bytesLess, Bool.or_eq_true, decide_eq_true_eq, Bool.and_eq_true, beq_iff_eq]
    have h : a < b ∨ a = b ∨ b < a := by
      rw [UInt8.lt_iff_toNat_lt, UInt8.lt_iff_toNat_lt, ← UInt8.toNat_inj]; omega
    rcases h with h | rfl | h
    · exact .inl (.inl h)
    · rcases bl_tri x y with g | rfl | g
      · exact .inl (.inr ⟨rfl, g⟩)
      · exact .inr (.inl rfl)
      · exact .inr (.inr (.inr ⟨rfl, g⟩))
    · exact .inr (.inr (.inl h))
end OM
