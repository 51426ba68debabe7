/- Contracts of layer 6: Add, Next, Before, On, Count, Expiry. -/
import Derived.Test.YthahfcehfagepaaWorkE
import Derived.Test.YthahfcehfagepaaWorkMath3
namespace Go.Proofs.Ythahfcehfagepaa
open Go.RowKit
set_option linter.unusedVariables false

theorem rk_o (W : Int → Bool) (r : Int) : KM.rkN W r = KM.oN (KM.rkO W r) ∧ KM.rkE W r = KM.oE (KM.rkO W r) := ⟨rfl, rfl⟩

set_option maxHeartbeats 1000000 in
theorem add6_any (A : Option Addr) (zs : List Int) (cap : Nat) (day n : Int) (w : World) (hI : Ints w A zs) (n1 : -9223372036854775808 ≤ n) (n2 : n ≤ 9223372036854775807) :
    Calls Try.prog 45 #[.slice A zs.length cap, .int .i64 day, .int .i64 n] w fun e w' => e = .returned (.tuple #[.int .i64 (KM.adN zs day n), .int .i64 (KM.adE zs day n)]) ∧ Below w.heap.size w w' := by
  have C := checkDay_any A zs cap day w hI
  by_cases hc : KM.cdE zs day = 0
  · rw [hc] at C
    obtain ⟨k1, k2⟩ := KM.cdE_zero hc
    obtain ⟨h0, h1⟩ := DM.isd_of k2
    obtain ⟨hok, hl⟩ := KM.check_ok k1
    have HC := Lib.hid C
    rw [(KM.ad_ok hc).1, (KM.ad_ok hc).2]
    by_cases hfar : n < -73048 ∨ 73048 < n
    · rw [KM.add_far h0 h1 hfar]
      have : n < -73048 ∨ (-73048 ≤ n ∧ 73048 < n) := by omega
      clear C hI hfar hok hc k1 k2
      rcases this with g | ⟨g, g2⟩
      all_goals
        go_enter Try.func45, Try.ntmps45
        go_wp2_with (go_at_call 59; refine HC.out.mono ?_; rintro e w' ⟨rfl, rfl⟩)
        go_ret2
        exact ⟨rfl, Below.refl _ _⟩
    · have f1 : -73048 ≤ n := by omega
      have f2 : n ≤ 73048 := by omega
      by_cases hp : 0 < n
      · have HU := Lib.hid (fun ww (h : Ints ww A zs) => until_any A zs cap day ww h hok hl (by omega) h1)
        have hub := KM.unt_le (KM.works zs) (d := day) (by omega)
        have CR := fun ww (h : Ints ww A zs) => ranked_any A zs cap ((KM.unt (KM.works zs) day : Int) + n) ww h hok hl
        rw [(rk_o _ _).1, (rk_o _ _).2, KM.add_pos h0 h1 hp] at CR
        generalize KM.oN (KM.addO (KM.works zs) day n) = rn at *
        generalize KM.oE (KM.addO (KM.works zs) day n) = re at *
        generalize hu : ((KM.unt (KM.works zs) day : Nat) : Int) = u at *
        have u0 : 0 ≤ u := by omega
        have HCR := Lib.hid CR; have HI := Lib.hid hI
        clear C CR hI hfar hok hc k1 k2 hu
        go_enter Try.func45, Try.ntmps45
        go_wp2_with fail
        refine HC.out.mono ?_
        rintro e w1 ⟨rfl, rfl⟩
        go_wp2_with fail
        refine (HU.out _ HI.out).mono ?_
        rintro e w1 ⟨rfl, rfl⟩
        go_wp2_with fail
        refine (HCR.out _ HI.out).mono ?_
        rintro e w1 ⟨rfl, b1⟩
        go_wp2
        go_ret2
        exact ⟨rfl, b1⟩
      · have HU := Lib.hid (fun ww (h : Ints ww A zs) => until_any A zs cap (day - 1) ww h hok hl (by omega) (by omega))
        have hub := KM.unt_le (KM.works zs) (d := day - 1) (by omega)
        have CR := fun ww (h : Ints ww A zs) => ranked_any A zs cap ((KM.unt (KM.works zs) (day - 1) : Int) + 1 + n) ww h hok hl
        rw [(rk_o _ _).1, (rk_o _ _).2, KM.add_neg h0 h1 hp] at CR
        generalize KM.oN (KM.addO (KM.works zs) day n) = rn at *
        generalize KM.oE (KM.addO (KM.works zs) day n) = re at *
        generalize hu : ((KM.unt (KM.works zs) (day - 1) : Nat) : Int) = u at *
        have u0 : 0 ≤ u := by omega
        have HCR := Lib.hid CR; have HI := Lib.hid hI
        clear C CR hI hfar hok hc k1 k2 hu
        go_enter Try.func45, Try.ntmps45
        go_wp2_with fail
        refine HC.out.mono ?_
        rintro e w1 ⟨rfl, rfl⟩
        go_wp2_with fail
        refine (HU.out _ HI.out).mono ?_
        rintro e w1 ⟨rfl, rfl⟩
        go_wp2_with fail
        refine (HCR.out _ HI.out).mono ?_
        rintro e w1 ⟨rfl, b1⟩
        go_wp2
        go_ret2
        exact ⟨rfl, b1⟩
  · rw [(KM.ad_no hc).1, (KM.ad_no hc).2]
    generalize KM.cdE zs day = r at *
    have HC := Lib.hid C
    have hb := bne0 hc
    clear C hc hI
    go_enter Try.func45, Try.ntmps45
    go_wp2_with (go_at_call 59; refine HC.out.mono ?_; rintro e w' ⟨rfl, rfl⟩)
    go_ret2
    exact ⟨rfl, Below.refl _ _⟩

theorem next_any (A : Option Addr) (zs : List Int) (cap : Nat) (day : Int) (w : World) (hI : Ints w A zs) :
    Calls Try.prog 37 #[.slice A zs.length cap, .int .i64 day] w fun e w' => e = .returned (.tuple #[.int .i64 (KM.adN zs day 1), .int .i64 (KM.adE zs day 1)]) ∧ Below w.heap.size w w' := by
  have HC := Lib.hid (add6_any A zs cap day 1 w hI (by omega) (by omega))
  clear hI
  go_enter Try.func37, Try.ntmps37
  go_wp2_with fail
  refine HC.out.mono ?_
  rintro e w1 ⟨rfl, b1⟩
  go_wp2
  go_ret2
  exact ⟨rfl, b1⟩

theorem before_any (A : Option Addr) (zs : List Int) (cap : Nat) (day : Int) (w : World) (hI : Ints w A zs) :
    Calls Try.prog 39 #[.slice A zs.length cap, .int .i64 day] w fun e w' => e = .returned (.tuple #[.int .i64 (KM.adN zs day (-1)), .int .i64 (KM.adE zs day (-1))]) ∧ Below w.heap.size w w' := by
  have HC := Lib.hid (add6_any A zs cap day (-1) w hI (by omega) (by omega))
  clear hI
  go_enter Try.func39, Try.ntmps39
  go_wp2_with fail
  refine HC.out.mono ?_
  rintro e w1 ⟨rfl, b1⟩
  go_wp2
  go_ret2
  exact ⟨rfl, b1⟩

theorem on_any (A : Option Addr) (zs : List Int) (cap : Nat) (day : Int) (w : World) (hI : Ints w A zs) :
    Calls Try.prog 41 #[.slice A zs.length cap, .int .i64 day] w fun e w' => e = .returned (.tuple #[.int .i64 (KM.adN zs day 0), .int .i64 (KM.adE zs day 0)]) ∧ Below w.heap.size w w' := by
  have HC := Lib.hid (add6_any A zs cap day 0 w hI (by omega) (by omega))
  clear hI
  go_enter Try.func41, Try.ntmps41
  go_wp2_with fail
  refine HC.out.mono ?_
  rintro e w1 ⟨rfl, b1⟩
  go_wp2
  go_ret2
  exact ⟨rfl, b1⟩

set_option maxHeartbeats 1000000 in
theorem count_any (A : Option Addr) (zs : List Int) (cap : Nat) (a b : Int) (w : World) (hI : Ints w A zs) :
    Calls Try.prog 47 #[.slice A zs.length cap, .int .i64 a, .int .i64 b] w fun e w' => e = .returned (.tuple #[.int .i64 (KM.coN zs a b), .int .i64 (KM.coE zs a b)]) ∧ w = w' := by
  have C := check_any A zs cap w hI
  by_cases hc : KM.checkE zs = 0
  · rw [hc] at C
    have HC := Lib.hid C
    cases ha : DM.isd a
    · rw [(KM.co_no hc (.inl ha)).1, (KM.co_no hc (.inl ha)).2]
      clear C hc hI
      go_enter Try.func47, Try.ntmps47
      go_wp2_with (first
        | (go_at_call 43; refine HC.out.mono ?_; rintro e w' ⟨rfl, rfl⟩)
        | (go_at_call 64; refine (isDay6_any _ _).mono ?_; rintro e w' ⟨rfl, rfl⟩))
      go_ret2
      exact ⟨rfl, rfl⟩
    · cases hb : DM.isd b
      · rw [(KM.co_no hc (.inr hb)).1, (KM.co_no hc (.inr hb)).2]
        clear C hc hI
        go_enter Try.func47, Try.ntmps47
        go_wp2_with (first
          | (go_at_call 43; refine HC.out.mono ?_; rintro e w' ⟨rfl, rfl⟩)
          | (go_at_call 64; refine (isDay6_any _ _).mono ?_; rintro e w' ⟨rfl, rfl⟩))
        go_ret2
        exact ⟨rfl, rfl⟩
      · rw [(KM.co_ok hc ha hb).1, (KM.co_ok hc ha hb).2]
        obtain ⟨a0, a1⟩ := DM.isd_of ha
        obtain ⟨b0, b1⟩ := DM.isd_of hb
        obtain ⟨hok, hl⟩ := KM.check_ok hc
        by_cases hlt : b < a
        · rw [KM.count_none _ hlt]
          clear C hc hI hok
          go_enter Try.func47, Try.ntmps47
          go_wp2_with (first
            | (go_at_call 43; refine HC.out.mono ?_; rintro e w' ⟨rfl, rfl⟩)
            | (go_at_call 64; refine (isDay6_any _ _).mono ?_; rintro e w' ⟨rfl, rfl⟩))
          go_ret2
          exact ⟨rfl, rfl⟩
        · rw [← KM.count_unt (KM.works zs) a0 (by omega)]
          have H1 := Lib.hid (until_any A zs cap b w hI hok hl (by omega) b1)
          have H2 := Lib.hid (until_any A zs cap (a - 1) w hI hok hl (by omega) (by omega))
          have q1 := KM.unt_le (KM.works zs) (d := b) (by omega)
          have q2 := KM.unt_le (KM.works zs) (d := a - 1) (by omega)
          generalize hu1 : ((KM.unt (KM.works zs) b : Nat) : Int) = u1 at *
          generalize hu2 : ((KM.unt (KM.works zs) (a - 1) : Nat) : Int) = u2 at *
          have p1 : 0 ≤ u1 := by omega
          have p2 : 0 ≤ u2 := by omega
          clear C hc hI hok hu1 hu2
          go_enter Try.func47, Try.ntmps47
          go_wp2_with fail
          refine HC.out.mono ?_
          rintro e w1 ⟨rfl, rfl⟩
          go_wp2_with fail
          refine (isDay6_any _ _).mono ?_
          rintro e w1 ⟨rfl, rfl⟩
          go_wp2_with fail
          refine (isDay6_any _ _).mono ?_
          rintro e w1 ⟨rfl, rfl⟩
          go_wp2_with fail
          refine H1.out.mono ?_
          rintro e w1 ⟨rfl, rfl⟩
          go_wp2_with fail
          refine H2.out.mono ?_
          rintro e w1 ⟨rfl, rfl⟩
          go_wp2
          go_ret2
          exact ⟨rfl, rfl⟩
  · rw [(KM.co_bad hc).1, (KM.co_bad hc).2]
    generalize KM.checkE zs = r at *
    have HC := Lib.hid C
    have hb := bne0 hc
    clear C hc hI
    go_enter Try.func47, Try.ntmps47
    go_wp2_with (go_at_call 43; refine HC.out.mono ?_; rintro e w' ⟨rfl, rfl⟩)
    go_ret2
    exact ⟨rfl, rfl⟩

set_option maxHeartbeats 1000000 in
theorem expiry_any (A : Option Addr) (zs : List Int) (cap : Nat) (y m : Int) (w : World) (hI : Ints w A zs) :
    Calls Try.prog 49 #[.slice A zs.length cap, .int .i64 y, .int .i64 m] w fun e w' => e = .returned (.tuple #[.int .i64 (KM.exN zs y m), .int .i64 (KM.exE zs y m)]) ∧ Below w.heap.size w w' := by
  have C := check_any A zs cap w hI
  by_cases hc : KM.checkE zs = 0
  · rw [hc] at C
    have HC := Lib.hid C
    have CN := fun ww => nth_any y m 5 3 ww
    by_cases hn : DM.nthE y m 5 3 = 0
    · rw [(KM.ex_ok hc hn).1, (KM.ex_ok hc hn).2]
      obtain ⟨f0, f1, -, -⟩ := KM.nth_in hn
      rw [hn] at CN
      obtain ⟨hok, hl⟩ := KM.check_ok hc
      generalize DM.nthN y m 5 3 = f at *
      have H1 := Lib.hid (until_any A zs cap f w hI hok hl (by omega) f1)
      have CR := ranked_any A zs cap (KM.unt (KM.works zs) f : Int) w hI hok hl
      rw [(rk_o _ _).1, (rk_o _ _).2, KM.rk_back f0 f1] at CR
      have HR : Hid (Calls Try.prog 65 #[.slice A zs.length cap, .int .i64 (KM.unt (KM.works zs) f : Nat)] w fun e w' => e = .returned (.tuple #[.int .i64 (KM.oN (KM.exO (KM.works zs) f)), .int .i64 (KM.oE (KM.exO (KM.works zs) f))]) ∧ Below w.heap.size w w') := Lib.hid CR
      generalize KM.oN (KM.exO (KM.works zs) f) = rn at *
      generalize KM.oE (KM.exO (KM.works zs) f) = re at *
      generalize ((KM.unt (KM.works zs) f : Nat) : Int) = u at *
      have HN := Lib.hid CN
      clear C CN CR hc hn hI hok
      go_enter Try.func49, Try.ntmps49
      go_wp2_with fail
      refine HC.out.mono ?_
      rintro e w1 ⟨rfl, rfl⟩
      go_wp2_with fail
      refine (HN.out _).mono ?_
      rintro e w1 ⟨rfl, rfl⟩
      go_wp2_with fail
      refine H1.out.mono ?_
      rintro e w1 ⟨rfl, rfl⟩
      go_wp2_with fail
      refine HR.out.mono ?_
      rintro e w1 ⟨rfl, b1⟩
      go_wp2
      go_ret2
      exact ⟨rfl, b1⟩
    · rw [(KM.ex_no hc hn).1, (KM.ex_no hc hn).2]
      generalize DM.nthN y m 5 3 = f at *
      generalize DM.nthE y m 5 3 = g at *
      have hb := bne0 hn
      have HN := Lib.hid CN
      clear C CN hc hn hI
      go_enter Try.func49, Try.ntmps49
      go_wp2_with fail
      refine HC.out.mono ?_
      rintro e w1 ⟨rfl, rfl⟩
      go_wp2_with fail
      refine (HN.out _).mono ?_
      rintro e w1 ⟨rfl, rfl⟩
      go_wp2
      go_ret2
      exact ⟨rfl, Below.refl _ _⟩
  · rw [(KM.ex_bad hc).1, (KM.ex_bad hc).2]
    generalize KM.checkE zs = r at *
    have HC := Lib.hid C
    have hb := bne0 hc
    clear C hc hI
    go_enter Try.func49, Try.ntmps49
    go_wp2_with (go_at_call 43; refine HC.out.mono ?_; rintro e w' ⟨rfl, rfl⟩)
    go_ret2
    exact ⟨rfl, Below.refl _ _⟩
end Go.Proofs.Ythahfcehfagepaa
