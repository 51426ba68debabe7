import Derived.Test.YthahfcehfagepaaDateJ
namespace Go.Proofs.Ythahfcehfagepaa.dateNth
open Go.RowKit
set_option linter.unusedVariables false

theorem alloc_cells (w : World) (a b : Int) : (w.alloc (.cells #[.int .i64 a, .int .i64 b] 43)).cell? ⟨w.heap.size, 0, none⟩ = some (.int .i64 a) ∧ (w.alloc (.cells #[.int .i64 a, .int .i64 b] 43)).cell? ⟨w.heap.size, 1, none⟩ = some (.int .i64 b) := by
  constructor <;> simp

/-- no day of the month from 7n-6 on, ahead of d, is the one -/
def noneYet (y m wd n d : Int) : Prop := ∀ k, 7 * n - 6 ≤ k → k < d → ¬ (DM.okDate y m k ∧ DM.weekday (DM.dayOf y m k) = wd)

theorem hit {y m wd n d : Int} (hw : ¬ (wd < 1 ∨ 7 < wd ∨ n < 1 ∨ 5 < n)) (h1 : 7 * n - 6 ≤ d) (h2 : d ≤ 7 * n) (hok : DM.okDate y m d) (h : DM.weekday (DM.dayOf y m d) = wd) : DM.nthN y m wd n = DM.dayOf y m d ∧ DM.nthE y m wd n = 0 := by
  have e := (DM.nth_only hok (by omega) (by omega) h1 h2).1 h
  rw [(nth_of hw).1, (nth_of hw).2, ← e, (ofYes hok).1, (ofYes hok).2]
  exact ⟨rfl, rfl⟩
theorem miss {y m wd n : Int} (hw : ¬ (wd < 1 ∨ 7 < wd ∨ n < 1 ∨ 5 < n)) (h : noneYet y m wd n (7 * n + 1)) : DM.nthN y m wd n = 0 ∧ DM.nthE y m wd n = 15 := by
  have r := DM.nthD_range y m wd n
  have hno : ¬ DM.okDate y m (DM.nthD y m wd n) := fun g => h _ r.1 (by omega) ⟨g, (DM.nth_only g (by omega) (by omega) r.1 r.2).2 rfl⟩
  rw [(nth_of hw).1, (nth_of hw).2, (ofNo hno).1, (ofNo hno).2]
  exact ⟨rfl, rfl⟩

set_option maxHeartbeats 2000000 in
set_option maxRecDepth 100000 in
theorem walk (y m wd n : Int) (w : World) (w0 : -9223372036854775808 ≤ y ∧ y ≤ 9223372036854775807) (w1 : -9223372036854775808 ≤ m ∧ m ≤ 9223372036854775807) (w2 : (-9223372036854775808 ≤ wd ∧ wd ≤ 9223372036854775807) ∧ (-9223372036854775808 ≤ n ∧ n ≤ 9223372036854775807)) :
    Calls Try.prog 7 #[.int .i64 y, .int .i64 m, .agg #[.int .i64 wd, .int .i64 n]] w fun e w' => e = .returned (.bool true) ∧ Below w.heap.size w w' := by
  obtain ⟨c0, c1⟩ := alloc_cells w wd n
  have HB0 : Hid (Below w.heap.size w (w.alloc (.cells #[.int .i64 wd, .int .i64 n] 43))) := Lib.hid ((Below.refl _ _).alloc (Nat.le_refl _) _)
  have H1 := Lib.hid (fun ww => nth_any y m wd n ww)
  by_cases hbad : wd < 1 ∨ 7 < wd ∨ n < 1 ∨ 5 < n
  · rw [(nth_bad hbad).1, (nth_bad hbad).2] at H1
    have : wd < 1 ∨ (1 ≤ wd ∧ 7 < wd) ∨ (1 ≤ wd ∧ wd ≤ 7 ∧ n < 1) ∨ (1 ≤ wd ∧ wd ≤ 7 ∧ 1 ≤ n ∧ 5 < n) := by omega
    clear hbad
    rcases this with h1 | ⟨h1, h2⟩ | ⟨h1, h2, h3⟩ | ⟨h1, h2, h3, h4⟩
    all_goals
      go_enter Try.func7, Try.ntmps7
      go_wp2
      go_quiet (fail)
      go_wp2_with fail
      refine (H1.out _).mono ?_
      rintro e w1 ⟨rfl, rfl⟩
      have HB1 := Lib.hid (below_drewN HB0.out nq)
      go_wp2_with fail
      refine (goes5_any _).mono ?_
      rintro e w2 ⟨rfl, b2⟩
      have HB2 := Lib.hid (HB1.out.trans (b2.mono HB1.out.size))
      clear b2
      go_wp2
      go_ret
      exact ⟨rfl, HB2.out⟩
  · have HH : Hid (∀ d, ¬ (wd < 1 ∨ 7 < wd ∨ n < 1 ∨ 5 < n) → 7 * n - 6 ≤ d → d ≤ 7 * n → DM.okDate y m d → DM.weekday (DM.dayOf y m d) = wd → DM.nthN y m wd n = DM.dayOf y m d ∧ DM.nthE y m wd n = 0) := Lib.hid (fun d a b c e f => hit a b c e f)
    have HM := Lib.hid (@miss y m wd n)
    have HBAD := Lib.hid hbad
    have b1 : 1 ≤ wd := by omega
    have b2 : wd ≤ 7 := by omega
    have b3 : 1 ≤ n := by omega
    have b4 : n ≤ 5 := by omega
    generalize hrn : DM.nthN y m wd n = rn at *
    generalize hre : DM.nthE y m wd n = re at *
    clear hbad hrn hre
    go_enter Try.func7, Try.ntmps7
    go_wp2
    go_quiet (fail)
    go_wp2_with fail
    refine (H1.out _).mono ?_
    rintro e w1 ⟨rfl, rfl⟩
    have HB1 := Lib.hid (below_drewN HB0.out nq)
    generalize (w.alloc (.cells #[.int .i64 wd, .int .i64 n] 43)).drewN nq = w1 at *
    clear HB0 c0 c1
    go_wp2_with fail
    go_loop [11] (fun i => ∃ d : Int, i = .int .i64 d ∧ 7 * n - 6 ≤ d ∧ d ≤ 7 * n + 1 ∧ Hid (noneYet y m wd n d)) (fun i => (40 - intOf i).toNat)
    case atStart => exact ⟨_, rfl, by omega, by omega, Lib.hid (fun k h1 h2 => by omega)⟩
    case round =>
      obtain ⟨d, rfl, d1, d2, HNY⟩ := hrel
      by_cases hlt : d ≤ 7 * n
      · by_cases hok : DM.okDate y m d
        · have C2 := fun ww => of_any y m d ww
          rw [(ofYes hok).1, (ofYes hok).2] at C2
          have C3 := fun ww => weekday_any (DM.dayOf y m d) ww
          have HIT := Lib.hid (HH.out d HBAD.out d1 hlt hok)
          have HNN : Hid (DM.weekday (DM.dayOf y m d) ≠ wd → noneYet y m wd n (d + 1)) := Lib.hid (fun g k h1 h2 => by
            rcases Int.lt_or_le k d with q | q
            · exact HNY.out k h1 q
            · have : k = d := by omega
              subst this
              exact fun x => g x.2)
          generalize DM.weekday (DM.dayOf y m d) = wk at *
          generalize DM.dayOf y m d = dd at *
          have H2 := Lib.hid C2; have H3 := Lib.hid C3
          clear C2 C3 hok
          by_cases hk : wk = wd
          · obtain ⟨rfl, rfl⟩ := HIT.out hk
            have hb : (wk == wd) = true := beq_t hk
            clear hk
            go_wp2_with fail
            refine (H2.out _).mono ?_
            rintro e w2 ⟨rfl, rfl⟩
            go_wp2_with fail
            refine (H3.out _).mono ?_
            rintro e w2 ⟨rfl, rfl⟩
            go_wp2_with fail
            refine (goes5_any _).mono ?_
            rintro e w2 ⟨rfl, b2⟩
            have HB2 := Lib.hid (HB1.out.trans (b2.mono HB1.out.size))
            clear b2
            go_wp2
            go_ret
            exact ⟨rfl, HB2.out⟩
          · have HN := Lib.hid (HNN.out hk)
            have hb : (wk == wd) = false := beq_f hk
            clear hk
            go_wp2_with fail
            refine (H2.out _).mono ?_
            rintro e w2 ⟨rfl, rfl⟩
            go_wp2_with fail
            refine (H3.out _).mono ?_
            rintro e w2 ⟨rfl, rfl⟩
            go_wp2
            go_round
            case rel => exact ⟨_, rfl, by omega, by omega, HN⟩
            case measure => simp [intOf]; omega
        · have C2 := fun ww => of_any y m d ww
          rw [(ofNo hok).1, (ofNo hok).2] at C2
          have HN : Hid (noneYet y m wd n (d + 1)) := Lib.hid (fun k h1 h2 => by
            rcases Int.lt_or_le k d with q | q
            · exact HNY.out k h1 q
            · have : k = d := by omega
              subst this
              exact fun x => hok x.1)
          have H2 := Lib.hid C2
          clear C2 hok
          go_wp2_with fail
          refine (H2.out _).mono ?_
          rintro e w2 ⟨rfl, rfl⟩
          go_wp2
          go_round
          case rel => exact ⟨_, rfl, by omega, by omega, HN⟩
          case measure => simp [intOf]; omega
      · obtain rfl : d = 7 * n + 1 := by omega
        obtain ⟨rfl, rfl⟩ := HM.out HBAD.out HNY.out
        go_wp2_with fail
        refine (goes5_any _).mono ?_
        rintro e w2 ⟨rfl, b2⟩
        have HB2 := Lib.hid (HB1.out.trans (b2.mono HB1.out.size))
        clear b2
        go_wp2
        go_ret
        exact ⟨rfl, HB2.out⟩
end Go.Proofs.Ythahfcehfagepaa.dateNth
