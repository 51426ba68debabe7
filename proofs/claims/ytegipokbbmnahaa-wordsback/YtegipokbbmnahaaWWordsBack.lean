import Derived.Test.YtegipokbbmnahaaWordsO
namespace Go.Proofs.Ytegipokbbmnahaa.wordsBack
open Go.RowKit
set_option linter.unusedVariables false

theorem int_of (n : Int) (h1 : -9223372036854775808 ≤ n) (h2 : n ≤ 9223372036854775807) (w : World) :
    Calls Try.prog 14 #[.string (S (WM.textL n))] w fun e w' => (∃ a, e = .returned (.tuple #[.int .i64 a, .int .i64 (if n.natAbs ≤ 1152921504606846976 then 0 else 3)]) ∧ (n.natAbs ≤ 1152921504606846976 → a = n)) ∧ ∃ m, w' = w.drewN m := by
  have hz : (S (WM.textL n)).size ≤ 9223372036854775807 := by
    rw [S_size]
    unfold WM.textL
    have := dec_len (n := n.natAbs) (by omega)
    split <;> simp <;> omega
  refine (int_any _ w hz).mono ?_
  rintro e w' ⟨rfl, hw⟩
  rw [L_S]
  obtain ⟨h3, h4⟩ := WM.int_text n
  refine ⟨⟨_, by rw [h3]; rfl, h4⟩, hw⟩
theorem cents_of (n : Int) (h1 : -9223372036854775808 ≤ n) (h2 : n ≤ 9223372036854775807) (w : World) :
    Calls Try.prog 16 #[.string (S (WM.moneyL n))] w fun e w' => (∃ a, e = .returned (.tuple #[.int .i64 a, .int .i64 (if n.natAbs ≤ 1152921504606846976 then 0 else 3)]) ∧ (n.natAbs ≤ 1152921504606846976 → a = n)) ∧ Below w.heap.size w w' := by
  have hz : (S (WM.moneyL n)).size ≤ 140737488355328 := by
    rw [S_size]
    unfold WM.moneyL WM.money
    have := dec_len (n := n.natAbs / 100) (by omega)
    split <;> simp <;> omega
  refine (cents_any _ w hz).mono ?_
  rintro e w' ⟨rfl, hw⟩
  rw [L_S]
  obtain ⟨h3, h4⟩ := WM.cents_money n
  refine ⟨⟨_, by rw [h3]; rfl, h4⟩, hw⟩

set_option maxHeartbeats 4000000 in
set_option maxRecDepth 100000 in
theorem walk (n : Int) (s : ByteArray) (w : World) (hn : -9223372036854775808 ≤ n ∧ n ≤ 9223372036854775807) (hs : s.size ≤ 140737488351232) :
    Calls Try.prog 6 #[.int .i64 n, .string s] w fun e w' => e = .returned (.bool true) ∧ Below w.heap.size w w' := by
  obtain ⟨h1, h2⟩ := hn
  have hs1 : s.size ≤ 9223372036854775807 := by omega
  have hs2 : s.size ≤ 140737488355328 := by omega
  have CT := fun ww => text_any n ww h1 h2
  have CM := fun ww => money_any n ww h1 h2
  have CI := fun ww => int_of n h1 h2 ww
  have CC := fun ww => cents_of n h1 h2 ww
  have DI := fun ww => int_any s ww hs1
  have DC := fun ww => cents_any s ww hs2
  have rI := WM.int_range (L s)
  have rC := WM.cents_range (L s)
  have tI : WM.intE (L s) = 0 → S (WM.textL (WM.intN (L s))) = s := fun h => by rw [WM.text_int h, S_L]
  have tC : WM.centsE (L s) = 0 → S (WM.moneyL (WM.centsN (L s))) = s := fun h => by rw [WM.money_cents h, S_L]
  have nb := WM.not_both (L s)
  generalize S (WM.textL n) = ts at *
  generalize S (WM.moneyL n) = ms at *
  generalize WM.intN (L s) = iN at *
  generalize WM.intE (L s) = iE at *
  generalize WM.centsN (L s) = cN at *
  generalize WM.centsE (L s) = cE at *
  have HCT := Lib.hid CT; have HCM := Lib.hid CM; have HCI := Lib.hid CI; have HCC := Lib.hid CC; have HDI := Lib.hid DI; have HDC := Lib.hid DC
  have HTI := Lib.hid tI; have HTC := Lib.hid tC; have HNB := Lib.hid nb
  obtain ⟨rI1, rI2⟩ := rI
  obtain ⟨rC1, rC2⟩ := rC
  have DT := fun ww => text_any iN ww (by omega) (by omega)
  have DM := fun ww => money_any cN ww (by omega) (by omega)
  have HDT := Lib.hid DT; have HDM := Lib.hid DM
  clear CT CM CI CC DI DC tI tC nb DT DM hs hs1 hs2
  by_cases hf : n.natAbs ≤ 1152921504606846976
  · have f1 : -1152921504606846976 ≤ n := by omega
    have f2 : n ≤ 1152921504606846976 := by omega
    go_enter Try.func6, Try.ntmps6
    go_wp2_with fail
    refine (HCT.out _).mono ?_
    rintro e w1 ⟨rfl, b1⟩
    have HB1 := Lib.hid b1
    clear b1
    go_wp2_with fail
    refine (HCI.out _).mono ?_
    rintro e w2 ⟨⟨a, rfl, ha⟩, n2, rfl⟩
    rw [if_pos hf]
    have ea := ha hf
    subst ea
    clear ha
    have HB2 := Lib.hid (below_drewN HB1.out n2)
    generalize w1.drewN n2 = w2 at *
    clear HB1
    go_wp2_with fail
    refine (HCM.out _).mono ?_
    rintro e w3 ⟨rfl, b3⟩
    have HB3 := Lib.hid (HB2.out.trans (b3.mono HB2.out.size))
    clear b3 HB2
    go_wp2_with fail
    refine (HCC.out _).mono ?_
    rintro e w4 ⟨⟨b, rfl, hb⟩, b4⟩
    rw [if_pos hf]
    have eb := hb hf
    subst eb
    clear hb
    have HB4 := Lib.hid (HB3.out.trans (b4.mono HB3.out.size))
    clear b4 HB3
    go_wp2_with fail
    refine (HDI.out _).mono ?_
    rintro e w5 ⟨rfl, n5, rfl⟩
    have HB5 := Lib.hid (below_drewN HB4.out n5)
    generalize w4.drewN n5 = w5 at *
    clear HB4
    go_wp2_with fail
    refine (HDC.out _).mono ?_
    rintro e w6 ⟨rfl, b6⟩
    have HB6 := Lib.hid (HB5.out.trans (b6.mono HB5.out.size))
    clear b6 HB5
    by_cases ci : iE = 0
    · have HT := Lib.hid (HTI.out ci)
      have di : (iE != 0) = false := by simpa using ci
      have nc : cE ≠ 0 := by rcases HNB.out with h | h; · exact absurd ci h
                             · exact h
      have dc : (cE != 0) = true := by simpa using nc
      clear ci nc
      go_wp2_with fail
      refine (HDT.out _).mono ?_
      rintro e w7 ⟨rfl, b7⟩
      rw [HT.out]
      have HB7 := Lib.hid (HB6.out.trans (b7.mono HB6.out.size))
      clear b7 HB6
      go_wp2_with fail
      refine (goes3_any _).mono ?_
      rintro e w8 ⟨rfl, b8⟩
      have HB8 := Lib.hid (HB7.out.trans (b8.mono HB7.out.size))
      clear b8 HB7
      go_wp2_with fail
      go_ret
      exact ⟨rfl, HB8.out⟩
    · have di : (iE != 0) = true := by simpa using ci
      by_cases cc : cE = 0
      · have HT := Lib.hid (HTC.out cc)
        have dc : (cE != 0) = false := by simpa using cc
        clear ci cc
        go_wp2_with fail
        refine (HDM.out _).mono ?_
        rintro e w7 ⟨rfl, b7⟩
        rw [HT.out]
        have HB7 := Lib.hid (HB6.out.trans (b7.mono HB6.out.size))
        clear b7 HB6
        go_wp2_with fail
        refine (goes3_any _).mono ?_
        rintro e w8 ⟨rfl, b8⟩
        have HB8 := Lib.hid (HB7.out.trans (b8.mono HB7.out.size))
        clear b8 HB7
        go_wp2_with fail
        go_ret
        exact ⟨rfl, HB8.out⟩
      · have dc : (cE != 0) = true := by simpa using cc
        clear ci cc
        go_wp2_with fail
        refine (goes3_any _).mono ?_
        rintro e w8 ⟨rfl, b8⟩
        have HB8 := Lib.hid (HB6.out.trans (b8.mono HB6.out.size))
        clear b8 HB6
        go_wp2_with fail
        go_ret
        exact ⟨rfl, HB8.out⟩
  · by_cases f1 : -1152921504606846976 ≤ n
    · have f2 : decide (n ≤ 1152921504606846976) = false := decide_eq_false (by omega)
      go_enter Try.func6, Try.ntmps6
      go_wp2_with fail
      refine (HCT.out _).mono ?_
      rintro e w1 ⟨rfl, b1⟩
      have HB1 := Lib.hid b1
      clear b1
      go_wp2_with fail
      refine (HCI.out _).mono ?_
      rintro e w2 ⟨⟨a, rfl, ha⟩, n2, rfl⟩
      rw [if_neg hf]
      clear ha
      have HB2 := Lib.hid (below_drewN HB1.out n2)
      generalize w1.drewN n2 = w2 at *
      clear HB1
      go_wp2_with fail
      refine (HCM.out _).mono ?_
      rintro e w3 ⟨rfl, b3⟩
      have HB3 := Lib.hid (HB2.out.trans (b3.mono HB2.out.size))
      clear b3 HB2
      go_wp2_with fail
      refine (HCC.out _).mono ?_
      rintro e w4 ⟨⟨b, rfl, hb⟩, b4⟩
      rw [if_neg hf]
      clear hb
      have HB4 := Lib.hid (HB3.out.trans (b4.mono HB3.out.size))
      clear b4 HB3
      go_wp2_with fail
      refine (HDI.out _).mono ?_
      rintro e w5 ⟨rfl, n5, rfl⟩
      have HB5 := Lib.hid (below_drewN HB4.out n5)
      generalize w4.drewN n5 = w5 at *
      clear HB4
      go_wp2_with fail
      refine (HDC.out _).mono ?_
      rintro e w6 ⟨rfl, b6⟩
      have HB6 := Lib.hid (HB5.out.trans (b6.mono HB5.out.size))
      clear b6 HB5
      by_cases ci : iE = 0
      · have HT := Lib.hid (HTI.out ci)
        have di : (iE != 0) = false := by simpa using ci
        have nc : cE ≠ 0 := by rcases HNB.out with h | h; · exact absurd ci h
                               · exact h
        have dc : (cE != 0) = true := by simpa using nc
        clear ci nc
        go_wp2_with fail
        refine (HDT.out _).mono ?_
        rintro e w7 ⟨rfl, b7⟩
        rw [HT.out]
        have HB7 := Lib.hid (HB6.out.trans (b7.mono HB6.out.size))
        clear b7 HB6
        go_wp2_with fail
        refine (goes3_any _).mono ?_
        rintro e w8 ⟨rfl, b8⟩
        have HB8 := Lib.hid (HB7.out.trans (b8.mono HB7.out.size))
        clear b8 HB7
        go_wp2_with fail
        go_ret
        exact ⟨rfl, HB8.out⟩
      · have di : (iE != 0) = true := by simpa using ci
        by_cases cc : cE = 0
        · have HT := Lib.hid (HTC.out cc)
          have dc : (cE != 0) = false := by simpa using cc
          clear ci cc
          go_wp2_with fail
          refine (HDM.out _).mono ?_
          rintro e w7 ⟨rfl, b7⟩
          rw [HT.out]
          have HB7 := Lib.hid (HB6.out.trans (b7.mono HB6.out.size))
          clear b7 HB6
          go_wp2_with fail
          refine (goes3_any _).mono ?_
          rintro e w8 ⟨rfl, b8⟩
          have HB8 := Lib.hid (HB7.out.trans (b8.mono HB7.out.size))
          clear b8 HB7
          go_wp2_with fail
          go_ret
          exact ⟨rfl, HB8.out⟩
        · have dc : (cE != 0) = true := by simpa using cc
          clear ci cc
          go_wp2_with fail
          refine (goes3_any _).mono ?_
          rintro e w8 ⟨rfl, b8⟩
          have HB8 := Lib.hid (HB6.out.trans (b8.mono HB6.out.size))
          clear b8 HB6
          go_wp2_with fail
          go_ret
          exact ⟨rfl, HB8.out⟩
    · have f2 : decide (-1152921504606846976 ≤ n) = false := decide_eq_false f1
      go_enter Try.func6, Try.ntmps6
      go_wp2_with fail
      refine (HCT.out _).mono ?_
      rintro e w1 ⟨rfl, b1⟩
      have HB1 := Lib.hid b1
      clear b1
      go_wp2_with fail
      refine (HCI.out _).mono ?_
      rintro e w2 ⟨⟨a, rfl, ha⟩, n2, rfl⟩
      rw [if_neg hf]
      clear ha
      have HB2 := Lib.hid (below_drewN HB1.out n2)
      generalize w1.drewN n2 = w2 at *
      clear HB1
      go_wp2_with fail
      refine (HCM.out _).mono ?_
      rintro e w3 ⟨rfl, b3⟩
      have HB3 := Lib.hid (HB2.out.trans (b3.mono HB2.out.size))
      clear b3 HB2
      go_wp2_with fail
      refine (HCC.out _).mono ?_
      rintro e w4 ⟨⟨b, rfl, hb⟩, b4⟩
      rw [if_neg hf]
      clear hb
      have HB4 := Lib.hid (HB3.out.trans (b4.mono HB3.out.size))
      clear b4 HB3
      go_wp2_with fail
      refine (HDI.out _).mono ?_
      rintro e w5 ⟨rfl, n5, rfl⟩
      have HB5 := Lib.hid (below_drewN HB4.out n5)
      generalize w4.drewN n5 = w5 at *
      clear HB4
      go_wp2_with fail
      refine (HDC.out _).mono ?_
      rintro e w6 ⟨rfl, b6⟩
      have HB6 := Lib.hid (HB5.out.trans (b6.mono HB5.out.size))
      clear b6 HB5
      by_cases ci : iE = 0
      · have HT := Lib.hid (HTI.out ci)
        have di : (iE != 0) = false := by simpa using ci
        have nc : cE ≠ 0 := by rcases HNB.out with h | h; · exact absurd ci h
                               · exact h
        have dc : (cE != 0) = true := by simpa using nc
        clear ci nc
        go_wp2_with fail
        refine (HDT.out _).mono ?_
        rintro e w7 ⟨rfl, b7⟩
        rw [HT.out]
        have HB7 := Lib.hid (HB6.out.trans (b7.mono HB6.out.size))
        clear b7 HB6
        go_wp2_with fail
        refine (goes3_any _).mono ?_
        rintro e w8 ⟨rfl, b8⟩
        have HB8 := Lib.hid (HB7.out.trans (b8.mono HB7.out.size))
        clear b8 HB7
        go_wp2_with fail
        go_ret
        exact ⟨rfl, HB8.out⟩
      · have di : (iE != 0) = true := by simpa using ci
        by_cases cc : cE = 0
        · have HT := Lib.hid (HTC.out cc)
          have dc : (cE != 0) = false := by simpa using cc
          clear ci cc
          go_wp2_with fail
          refine (HDM.out _).mono ?_
          rintro e w7 ⟨rfl, b7⟩
          rw [HT.out]
          have HB7 := Lib.hid (HB6.out.trans (b7.mono HB6.out.size))
          clear b7 HB6
          go_wp2_with fail
          refine (goes3_any _).mono ?_
          rintro e w8 ⟨rfl, b8⟩
          have HB8 := Lib.hid (HB7.out.trans (b8.mono HB7.out.size))
          clear b8 HB7
          go_wp2_with fail
          go_ret
          exact ⟨rfl, HB8.out⟩
        · have dc : (cE != 0) = true := by simpa using cc
          clear ci cc
          go_wp2_with fail
          refine (goes3_any _).mono ?_
          rintro e w8 ⟨rfl, b8⟩
          have HB8 := Lib.hid (HB6.out.trans (b8.mono HB6.out.size))
          clear b8 HB6
          go_wp2_with fail
          go_ret
          exact ⟨rfl, HB8.out⟩
end Go.Proofs.Ytegipokbbmnahaa.wordsBack
