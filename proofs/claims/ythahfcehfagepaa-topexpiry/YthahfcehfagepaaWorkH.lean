/- Contracts of layer 6's reference: Next, Before, On, Add, Count, Expiry. -/
import Derived.Test.YthahfcehfagepaaWorkG
namespace KM
theorem add_one (W : Int → Bool) (day : Int) : addO W day 1 = up W (73048 - day).toNat (day + 1) 1 := rfl
theorem add_back (W : Int → Bool) (day : Int) : addO W day (-1) = down W day.toNat (day - 1) 1 := rfl
theorem add_zero (W : Int → Bool) (day : Int) : addO W day 0 = if W day = true then some day else up W (73048 - day).toNat (day + 1) 1 := rfl
end KM
namespace Go.Proofs.Ythahfcehfagepaa
open Go.RowKit
set_option linter.unusedVariables false

/-- the n-th one behind or ahead, with the errors -/
theorem toward_any (A : Option Addr) (zs : List Int) (cap : Nat) (day n : Int) (w : World) (hI : Ints w A zs) (n1 : 1 ≤ n) (n2 : n ≤ 9223372036854775807) :
    Calls Try.prog 63 #[.slice A zs.length cap, .int .i64 day, .int .i64 n, .int .i64 1] w fun e w' => e = .returned (.tuple #[.int .i64 (KM.adN zs day n), .int .i64 (KM.adE zs day n)]) ∧ ∃ q, w' = w.drewN q := by
  by_cases hc : KM.cdE zs day = 0
  · rw [(KM.ad_ok hc).1, (KM.ad_ok hc).2]
    have := toward_up A zs cap day n w hI hc n1 n2
    have e : KM.addO (KM.works zs) day n = KM.up (KM.works zs) (73048 - day).toNat (day + 1) n.toNat := by unfold KM.addO; rw [if_pos (by omega)]
    rw [e]; exact this
  · rw [(KM.ad_no hc).1, (KM.ad_no hc).2]
    exact toward_no A zs cap day n 1 w hI hc
theorem toward_back (A : Option Addr) (zs : List Int) (cap : Nat) (day n : Int) (w : World) (hI : Ints w A zs) (n1 : 1 ≤ n) (n2 : n ≤ 9223372036854775807) :
    Calls Try.prog 63 #[.slice A zs.length cap, .int .i64 day, .int .i64 n, .int .i64 (-1)] w fun e w' => e = .returned (.tuple #[.int .i64 (KM.adN zs day (-n)), .int .i64 (KM.adE zs day (-n))]) ∧ ∃ q, w' = w.drewN q := by
  by_cases hc : KM.cdE zs day = 0
  · rw [(KM.ad_ok hc).1, (KM.ad_ok hc).2]
    have := toward_down A zs cap day n w hI hc n1 n2
    have e : KM.addO (KM.works zs) day (-n) = KM.down (KM.works zs) day.toNat (day - 1) n.toNat := by unfold KM.addO; rw [if_neg (by omega), if_pos (by omega), Int.neg_neg]
    rw [e]; exact this
  · rw [(KM.ad_no hc).1, (KM.ad_no hc).2]
    exact toward_no A zs cap day n (-1) w hI hc

theorem rnext_any (A : Option Addr) (zs : List Int) (cap : Nat) (day : Int) (w : World) (hI : Ints w A zs) :
    Calls Try.prog 38 #[.slice A zs.length cap, .int .i64 day] w fun e w' => e = .returned (.tuple #[.int .i64 (KM.adN zs day 1), .int .i64 (KM.adE zs day 1)]) ∧ ∃ q, w' = w.drewN q := by
  have HC := Lib.hid (toward_any A zs cap day 1 w hI (by omega) (by omega))
  clear hI
  go_enter Try.func38, Try.ntmps38
  go_wp2_with fail
  refine HC.out.mono ?_
  rintro e w1 ⟨rfl, q, rfl⟩
  go_wp2
  go_ret2
  exact ⟨rfl, _, rfl⟩

theorem rbefore_any (A : Option Addr) (zs : List Int) (cap : Nat) (day : Int) (w : World) (hI : Ints w A zs) :
    Calls Try.prog 40 #[.slice A zs.length cap, .int .i64 day] w fun e w' => e = .returned (.tuple #[.int .i64 (KM.adN zs day (-1)), .int .i64 (KM.adE zs day (-1))]) ∧ ∃ q, w' = w.drewN q := by
  have HC := Lib.hid (toward_back A zs cap day 1 w hI (by omega) (by omega))
  clear hI
  go_enter Try.func40, Try.ntmps40
  go_wp2_with fail
  refine HC.out.mono ?_
  rintro e w1 ⟨rfl, q, rfl⟩
  go_wp2
  go_ret2
  exact ⟨rfl, _, rfl⟩

set_option maxHeartbeats 1000000 in
theorem ron_any (A : Option Addr) (zs : List Int) (cap : Nat) (day : Int) (w : World) (hI : Ints w A zs) :
    Calls Try.prog 42 #[.slice A zs.length cap, .int .i64 day] w fun e w' => e = .returned (.tuple #[.int .i64 (KM.adN zs day 0), .int .i64 (KM.adE zs day 0)]) ∧ ∃ q, w' = w.drewN q := by
  have C := rworks_any A zs cap day w hI
  by_cases hc : KM.cdE zs day = 0
  · rw [KM.wkN_ok hc, hc] at C
    rw [(KM.ad_ok hc).1, (KM.ad_ok hc).2, KM.add_zero]
    cases hw : KM.works zs day
    · rw [hw] at C
      have HN := Lib.hid (fun ww (h : Ints ww A zs) => rnext_any A zs cap day ww h)
      rw [(KM.ad_ok hc).1, (KM.ad_ok hc).2, KM.add_one] at HN
      simp only [Bool.false_eq_true, if_false]
      generalize KM.oN (KM.up (KM.works zs) (73048 - day).toNat (day + 1) 1) = rn at *
      generalize KM.oE (KM.up (KM.works zs) (73048 - day).toNat (day + 1) 1) = re at *
      have HC := Lib.hid C; have HI := Lib.hid hI
      clear C hc hw hI
      go_enter Try.func42, Try.ntmps42
      go_wp2_with fail
      refine HC.out.mono ?_
      rintro e w1 ⟨rfl, q, rfl⟩
      go_wp2_with fail
      refine (HN.out _ (HI.out.drewN q)).mono ?_
      rintro e w1 ⟨rfl, q2, rfl⟩
      go_wp2
      go_ret2
      exact ⟨rfl, _, rfl⟩
    · rw [hw] at C
      simp only [if_true]
      have HC := Lib.hid C
      clear C hc hw hI
      go_enter Try.func42, Try.ntmps42
      go_wp2_with fail
      refine HC.out.mono ?_
      rintro e w1 ⟨rfl, q, rfl⟩
      go_wp2
      go_ret2
      exact ⟨rfl, _, rfl⟩
  · rw [(KM.ad_no hc).1, (KM.ad_no hc).2]
    generalize KM.wkN zs day = wkk at *
    generalize KM.cdE zs day = r at *
    have HC := Lib.hid C
    have hb := bne0 hc
    clear C hc hI
    go_enter Try.func42, Try.ntmps42
    go_wp2_with fail
    refine HC.out.mono ?_
    rintro e w1 ⟨rfl, q, rfl⟩
    go_wp2
    go_ret2
    exact ⟨rfl, _, rfl⟩

theorem ad_low {zs : List Int} {day n : Int} (h : n < -100000) : KM.adN zs day n = KM.adN zs day (-100000) ∧ KM.adE zs day n = KM.adE zs day (-100000) := by
  by_cases hc : KM.cdE zs day = 0
  · obtain ⟨h0, h1⟩ := DM.isd_of (KM.cdE_zero hc).2
    rw [(KM.ad_ok hc).1, (KM.ad_ok hc).2, (KM.ad_ok hc).1, (KM.ad_ok hc).2, KM.add_far h0 h1 (.inl (by omega)), KM.add_far h0 h1 (.inl (by omega))]
    exact ⟨rfl, rfl⟩
  · rw [(KM.ad_no hc).1, (KM.ad_no hc).2, (KM.ad_no hc).1, (KM.ad_no hc).2]
    exact ⟨rfl, rfl⟩

set_option maxHeartbeats 1000000 in
theorem radd6_any (A : Option Addr) (zs : List Int) (cap : Nat) (day n : Int) (w : World) (hI : Ints w A zs) (n1 : -9223372036854775808 ≤ n) (n2 : n ≤ 9223372036854775807) :
    Calls Try.prog 46 #[.slice A zs.length cap, .int .i64 day, .int .i64 n] w fun e w' => e = .returned (.tuple #[.int .i64 (KM.adN zs day n), .int .i64 (KM.adE zs day n)]) ∧ ∃ q, w' = w.drewN q := by
  by_cases hp : 0 < n
  · have HC := Lib.hid (toward_any A zs cap day n w hI (by omega) n2)
    clear hI
    go_enter Try.func46, Try.ntmps46
    go_wp2_with fail
    refine HC.out.mono ?_
    rintro e w1 ⟨rfl, q, rfl⟩
    go_wp2
    go_ret2
    exact ⟨rfl, _, rfl⟩
  · by_cases hn : n < 0
    · by_cases hf : n < -100000
      · rw [(ad_low hf).1, (ad_low hf).2]
        have HC := Lib.hid (toward_back A zs cap day 100000 w hI (by omega) (by omega))
        clear hI
        go_enter Try.func46, Try.ntmps46
        go_wp2_with fail
        refine HC.out.mono ?_
        rintro e w1 ⟨rfl, q, rfl⟩
        go_wp2
        go_ret2
        exact ⟨rfl, _, rfl⟩
      · have C := toward_back A zs cap day (-n) w hI (by omega) (by omega)
        rw [Int.neg_neg] at C
        have HC := Lib.hid C
        clear hI C
        go_enter Try.func46, Try.ntmps46
        go_wp2_with fail
        refine HC.out.mono ?_
        rintro e w1 ⟨rfl, q, rfl⟩
        go_wp2
        go_ret2
        exact ⟨rfl, _, rfl⟩
    · obtain rfl : n = 0 := by omega
      have HC := Lib.hid (ron_any A zs cap day w hI)
      clear hI hp hn
      go_enter Try.func46, Try.ntmps46
      go_wp2_with fail
      refine HC.out.mono ?_
      rintro e w1 ⟨rfl, q, rfl⟩
      go_wp2
      go_ret2
      exact ⟨rfl, _, rfl⟩

theorem cnt_next (W : Int → Bool) (a : Int) (j : Nat) : KM.cnt W a (j + 1) = KM.cnt W a j + (if W (a + (j : Int)) = true then 1 else 0) := rfl

set_option maxHeartbeats 1000000 in
theorem rcount_any (A : Option Addr) (zs : List Int) (cap : Nat) (a b : Int) (w : World) (hI : Ints w A zs) :
    Calls Try.prog 48 #[.slice A zs.length cap, .int .i64 a, .int .i64 b] w fun e w' => e = .returned (.tuple #[.int .i64 (KM.coN zs a b), .int .i64 (KM.coE zs a b)]) ∧ ∃ q, w' = w.drewN q := by
  have HA := Lib.hid (rworks_any A zs cap a w hI)
  have HBB := Lib.hid (fun q => rworks_any A zs cap b (w.drewN q) (hI.drewN q))
  generalize KM.wkN zs a = v1 at *
  generalize KM.wkN zs b = v2 at *
  by_cases hc : KM.checkE zs = 0
  · cases ha : DM.isd a
    · rw [KM.cdE_no hc ha] at HA
      rw [(KM.co_no hc (.inl ha)).1, (KM.co_no hc (.inl ha)).2]
      clear hc hI ha
      go_enter Try.func48, Try.ntmps48
      go_wp2_with fail
      refine HA.out.mono ?_
      rintro e w1 ⟨rfl, q, rfl⟩
      go_wp2
      go_ret2
      exact ⟨rfl, _, rfl⟩
    · rw [KM.cdE_ok hc ha] at HA
      cases hb : DM.isd b
      · rw [KM.cdE_no hc hb] at HBB
        rw [(KM.co_no hc (.inr hb)).1, (KM.co_no hc (.inr hb)).2]
        clear hc hI ha hb
        go_enter Try.func48, Try.ntmps48
        go_wp2_with fail
        refine HA.out.mono ?_
        rintro e w1 ⟨rfl, q, rfl⟩
        go_wp2_with fail
        refine (HBB.out _).mono ?_
        rintro e w1 ⟨rfl, q2, rfl⟩
        go_wp2
        go_ret2
        exact ⟨rfl, _, rfl⟩
      · rw [KM.cdE_ok hc hb] at HBB
        rw [(KM.co_ok hc ha hb).1, (KM.co_ok hc ha hb).2]
        obtain ⟨a0, a1⟩ := DM.isd_of ha
        obtain ⟨b0, b1⟩ := DM.isd_of hb
        have HRW := Lib.hid (fun (ww : World) (d : Int) (h : Ints ww A zs) => rw_any A zs cap d ww h)
        have hs := cnt_next (KM.works zs) a
        have hcn : ((KM.count (KM.works zs) a b : Nat) : Int) = (KM.cnt (KM.works zs) a (b - a + 1).toNat : Nat) := rfl
        generalize hr : ((KM.count (KM.works zs) a b : Nat) : Int) = r at *
        generalize KM.works zs = W at *
        have HS := Lib.hid hs; have HR := Lib.hid hcn; have HI := Lib.hid hI
        have HLE := Lib.hid (KM.cnt_le W a)
        clear hc hI ha hb hs hr hcn
        go_enter Try.func48, Try.ntmps48
        go_wp2_with fail
        refine HA.out.mono ?_
        rintro e w1 ⟨rfl, q, rfl⟩
        go_wp2_with fail
        refine (HBB.out _).mono ?_
        rintro e w1 ⟨rfl, q2, hw1⟩
        have HI1 : Hid (Ints w1 A zs) := Lib.hid (by rw [hw1]; exact (HI.out.drewN q).drewN q2)
        have HW1 : Hid (∃ q, w1 = w.drewN q) := Lib.hid ⟨_, by rw [hw1]; exact World.drewN_drewN _ _ _⟩
        clear hw1
        go_wp2
        go_loop [12, 13] (fun c d => ∃ j : Nat, ∃ x : Int, d = .int .i64 (a + (j : Int)) ∧ c = .int .i64 x ∧ (j = 0 ∨ a + (j : Int) ≤ b + 1) ∧ 0 ≤ x ∧ x ≤ (j : Int) ∧ Hid (x = (KM.cnt W a j : Nat))) (fun _ d => (b + 1 - intOf d).toNat)
        case atStart => exact ⟨0, 0, by simp, rfl, .inl rfl, by omega, by omega, Lib.hid rfl⟩
        case round =>
          obtain ⟨j, x, rfl, rfl, hj, x0, x1, HX⟩ := hrel
          have hj2 : (j : Int) ≤ 73049 := by omega
          by_cases hlt : a + (j : Int) ≤ b
          · have CW := HRW.out _ (a + (j : Int)) HI1.out (by omega) (by omega)
            have hst := HS.out j
            cases hw : W (a + (j : Int))
            · rw [hw] at CW hst
              have HN : Hid (x = (KM.cnt W a (j + 1) : Nat)) := Lib.hid (by rw [hst, HX.out]; simp)
              have HCW := Lib.hid CW
              clear CW hst hw
              go_wp2_with (go_at_call 62; refine HCW.out.mono ?_; rintro e w' ⟨rfl, rfl⟩)
              go_round
              case rel => exact ⟨j + 1, x, by go_num, rfl, .inr (by omega), x0, by omega, HN⟩
              case measure => simp [intOf]; omega
            · rw [hw] at CW hst
              have HN : Hid (x + 1 = (KM.cnt W a (j + 1) : Nat)) := Lib.hid (by rw [hst, HX.out]; simp)
              have HCW := Lib.hid CW
              clear CW hst hw
              go_wp2_with (go_at_call 62; refine HCW.out.mono ?_; rintro e w' ⟨rfl, rfl⟩)
              go_round
              case rel => exact ⟨j + 1, x + 1, by go_num, rfl, .inr (by omega), by omega, by omega, HN⟩
              case measure => simp [intOf]; omega
          · have HQ : Hid (r = x) := Lib.hid (by
              rw [HR.out, HX.out, show (b - a + 1).toNat = j by omega])
            go_wp2
            go_ret2
            exact ⟨by rw [HQ.out]; rfl, HW1.out⟩
  · rw [KM.cdE_bad hc] at HA
    rw [(KM.co_bad hc).1, (KM.co_bad hc).2]
    clear HBB
    generalize KM.checkE zs = r at *
    have hb := bne0 hc
    clear hc hI
    go_enter Try.func48, Try.ntmps48
    go_wp2_with fail
    refine HA.out.mono ?_
    rintro e w1 ⟨rfl, q, rfl⟩
    go_wp2
    go_ret2
    exact ⟨rfl, _, rfl⟩

set_option maxHeartbeats 1000000 in
theorem rexpiry_any (A : Option Addr) (zs : List Int) (cap : Nat) (y m : Int) (w : World) (hI : Ints w A zs) :
    Calls Try.prog 50 #[.slice A zs.length cap, .int .i64 y, .int .i64 m] w fun e w' => e = .returned (.tuple #[.int .i64 (KM.exN zs y m), .int .i64 (KM.exE zs y m)]) ∧ ∃ q, w' = w.drewN q := by
  have C := rcheck_any A zs cap w hI
  by_cases hc : KM.checkE zs = 0
  · rw [hc] at C
    have HC := Lib.hid C
    have CN := fun ww => rnth_any y m 5 3 ww
    by_cases hn : DM.nthE y m 5 3 = 0
    · rw [(KM.ex_ok hc hn).1, (KM.ex_ok hc hn).2]
      obtain ⟨f0, f1, -, -⟩ := KM.nth_in hn
      rw [hn] at CN
      generalize DM.nthN y m 5 3 = f at *
      have hcd : KM.cdE zs f = 0 := KM.cdE_ok hc (DM.isd_true f0 f1)
      have CW := fun ww (h : Ints ww A zs) => rw_any A zs cap f ww h f0 f1
      have CB := fun ww (h : Ints ww A zs) => rbefore_any A zs cap f ww h
      rw [(KM.ad_ok hcd).1, (KM.ad_ok hcd).2, KM.add_back] at CB
      have HN := Lib.hid CN; have HI := Lib.hid hI
      unfold KM.exO
      cases hw : KM.works zs f
      · rw [hw] at CW
        simp only [Bool.false_eq_true, if_false]
        have HCW := Lib.hid CW; have HCB := Lib.hid CB
        generalize KM.oN (KM.down (KM.works zs) f.toNat (f - 1) 1) = rn at *
        generalize KM.oE (KM.down (KM.works zs) f.toNat (f - 1) 1) = re at *
        clear C CN CW CB hc hn hI hcd hw
        go_enter Try.func50, Try.ntmps50
        go_wp2_with fail
        refine HC.out.mono ?_
        rintro e w1 ⟨rfl, q, rfl⟩
        go_wp2_with fail
        refine (HN.out _).mono ?_
        rintro e w1 ⟨rfl, rfl⟩
        go_wp2_with fail
        refine (HCW.out _ (HI.out.drewN q)).mono ?_
        rintro e w1 ⟨rfl, rfl⟩
        go_wp2_with fail
        refine (HCB.out _ (HI.out.drewN q)).mono ?_
        rintro e w1 ⟨rfl, q2, rfl⟩
        go_wp2
        go_ret2
        exact ⟨rfl, _, rfl⟩
      · rw [hw] at CW
        simp only [if_true]
        have HCW := Lib.hid CW
        clear C CN CW CB hc hn hI hcd hw
        go_enter Try.func50, Try.ntmps50
        go_wp2_with fail
        refine HC.out.mono ?_
        rintro e w1 ⟨rfl, q, rfl⟩
        go_wp2_with fail
        refine (HN.out _).mono ?_
        rintro e w1 ⟨rfl, rfl⟩
        go_wp2_with fail
        refine (HCW.out _ (HI.out.drewN q)).mono ?_
        rintro e w1 ⟨rfl, rfl⟩
        go_wp2
        go_ret2
        exact ⟨rfl, _, rfl⟩
    · rw [(KM.ex_no hc hn).1, (KM.ex_no hc hn).2]
      generalize DM.nthN y m 5 3 = f at *
      generalize DM.nthE y m 5 3 = g at *
      have hb := bne0 hn
      have HN := Lib.hid CN
      clear C CN hc hn hI
      go_enter Try.func50, Try.ntmps50
      go_wp2_with fail
      refine HC.out.mono ?_
      rintro e w1 ⟨rfl, q, rfl⟩
      go_wp2_with fail
      refine (HN.out _).mono ?_
      rintro e w1 ⟨rfl, rfl⟩
      go_wp2
      go_ret2
      exact ⟨rfl, _, rfl⟩
  · rw [(KM.ex_bad hc).1, (KM.ex_bad hc).2]
    generalize KM.checkE zs = r at *
    have HC := Lib.hid C
    have hb := bne0 hc
    clear C hc hI
    go_enter Try.func50, Try.ntmps50
    go_wp2_with fail
    refine HC.out.mono ?_
    rintro e w1 ⟨rfl, q, rfl⟩
    go_wp2
    go_ret2
    exact ⟨rfl, _, rfl⟩
end Go.Proofs.Ythahfcehfagepaa
