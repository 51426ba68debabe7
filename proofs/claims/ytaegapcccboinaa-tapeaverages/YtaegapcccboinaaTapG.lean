/- Contracts of layer 17's reference: Check, Volume, Vwap, Window. -/
import Derived.Test.YtaegapcccboinaaTapF
import Derived.BigQuiet
namespace Go.Proofs.Ytaegapcccboinaa
open Go.RowKit Go.Recs
set_option linter.unusedVariables false
set_option linter.unusedSimpArgs false
set_option maxRecDepth 100000 in
set_option maxHeartbeats 4000000 in
theorem rtcheck17_any (A : Option Addr) (l : List TP.Tick) (n cap : Nat) (hn : n = l.length) (w : World) (hI : Ticks w A l) :
    Calls Try.prog 46 #[.slice A n cap] w fun e w' => e = .returned (.int .i64 (TP.allE l)) ∧ ∃ k, w' = w.drewN k := by
  subst hn
  have hlen := hI.len
  by_cases h32 : 1024 < l.length
  · have e : TP.allE l = 8 := by unfold TP.allE; rw [if_pos h32]
    rw [e]; clear e hI
    go_enter Try.func46, Try.ntmps46
    go_wp2_with fail
    go_ret
    exact ⟨rfl, 0, rfl⟩
  have KS := Lib.hid (fun k => @TP.all_stop l k h32)
  have KE : Hid (TP.uptoE l l.length = 0 → TP.allE l = 0) := Lib.hid (fun h => by unfold TP.allE; rw [if_neg h32, h])
  generalize TP.allE l = x at *
  have HI := Lib.hid hI
  clear hI
  go_enter Try.func46, Try.ntmps46
  go_wp2_with fail
  clear h32
  go_loopw [3] (fun i wr => ∃ k : Nat, k ≤ l.length ∧ i = .int .i64 (k : Int) ∧ Hid (TP.uptoE l k = 0) ∧ ∃ nd, wr = w.drewN nd) (fun i _ => l.length - (intOf i).toNat)
  case atStart => exact ⟨0, by omega, rfl, Lib.hid rfl, 0, rfl⟩
  case round =>
    obtain ⟨k, hk, rfl, HE, nd, rfl⟩ := hrel
    by_cases hlt : k < l.length
    · obtain ⟨b, off, t, rfl, hb, HV, ⟨q0, q1, q2⟩, d0, d1, d2⟩ := ticks_get HI.out hlt
      have HO := Lib.hid (tick_at HV.out)
      have KF : Hid (∀ c, TP.oneE l k = c → c ≠ 0 → x = c) := Lib.hid (fun c h h2 => by rw [← h]; exact KS.out k hlt HE.out (by rw [h]; exact h2))
      have KS2 := Lib.hid (fun h => @TP.upto_step l k HE.out h)
      have HPG := Lib.hid (TP.prev_ge (Nat.le_of_lt hlt) HE.out)
      clear q0 q1 q2 KS HV
      by_cases h0 : k = 0
      · subst h0
        simp only [Nat.zero_mul, Nat.add_zero] at d0 d1 d2
        have hgt : ¬ (0 : Int) < 0 := by omega
        by_cases t1 : t.time < 0
        · have HX := Lib.hid (KF.out 2 (by rw [HO.out]; exact TP.one_time (by show ¬ (0 ≤ _ ∧ _); omega)) (by decide))
          go_wp2_with fail
          go_quiet (fail)
          go_wp2_with fail
          go_ret
          exact ⟨by rw [HX.out] <;> rfl, by first | exact ⟨_, rfl⟩ | exact ⟨_, World.drewN_drewN _ _ _⟩⟩
        have e1 : decide (t.time < 0) = false := decide_eq_false t1
        by_cases t2 : 86399 < t.time
        · have HX := Lib.hid (KF.out 2 (by rw [HO.out]; exact TP.one_time (by show ¬ (0 ≤ _ ∧ _); omega)) (by decide))
          go_wp2_with fail
          go_quiet (fail)
          go_wp2_with fail
          go_ret
          exact ⟨by rw [HX.out] <;> rfl, by first | exact ⟨_, rfl⟩ | exact ⟨_, World.drewN_drewN _ _ _⟩⟩
        have e2 : decide (86399 < t.time) = false := decide_eq_false t2
        have HT : Hid (TP.prev l 0 ≤ t.time ∧ t.time ≤ 86399) := Lib.hid (by rw [TP.prev_zero]; omega)
        go_wp2_with fail
        go_quiet (fail)
        by_cases u1 : t.qty < 1
        · have HX := Lib.hid (KF.out 18 (by rw [HO.out]; exact TP.one_qty HT.out (by omega)) (by decide))
          go_wp2_with fail
          go_ret
          exact ⟨by rw [HX.out] <;> rfl, by first | exact ⟨_, rfl⟩ | exact ⟨_, World.drewN_drewN _ _ _⟩⟩
        by_cases u2 : 1048576 < t.qty
        · have HX := Lib.hid (KF.out 18 (by rw [HO.out]; exact TP.one_qty HT.out (by omega)) (by decide))
          go_wp2_with fail
          go_ret
          exact ⟨by rw [HX.out] <;> rfl, by first | exact ⟨_, rfl⟩ | exact ⟨_, World.drewN_drewN _ _ _⟩⟩
        by_cases u3 : t.price < -16777216
        · have HX := Lib.hid (KF.out 17 (by rw [HO.out]; exact TP.one_price HT.out (by omega) (by omega)) (by decide))
          go_wp2_with fail
          go_ret
          exact ⟨by rw [HX.out] <;> rfl, by first | exact ⟨_, rfl⟩ | exact ⟨_, World.drewN_drewN _ _ _⟩⟩
        by_cases u4 : 16777216 < t.price
        · have HX := Lib.hid (KF.out 17 (by rw [HO.out]; exact TP.one_price HT.out (by omega) (by omega)) (by decide))
          go_wp2_with fail
          go_ret
          exact ⟨by rw [HX.out] <;> rfl, by first | exact ⟨_, rfl⟩ | exact ⟨_, World.drewN_drewN _ _ _⟩⟩
        have HZ := Lib.hid (KS2.out (by rw [HO.out]; exact TP.oneT_zero.2 ⟨HT.out, by omega, by omega⟩))
        go_wp2_with fail
        go_roundw
        case rel => exact ⟨1, by omega, by go_num, HZ, by first | exact ⟨_, rfl⟩ | exact ⟨_, World.drewN_drewN _ _ _⟩⟩
        case measure => simp [intOf]; omega
      · obtain ⟨j, hjk⟩ : ∃ j, k = j + 1 := ⟨k - 1, by omega⟩
        have hjl : j < l.length := by omega
        have hk0 : 0 < k := by omega
        obtain ⟨b', off', p, e', hb1, HV1, ⟨q0, q1, q2⟩, g0, g1, g2⟩ := ticks_get HI.out hjl
        injection e' with e'; injection e' with e1' e2'; subst e1' e2'
        have HPV : Hid (TP.prev l k = p.time) := Lib.hid (by rw [hjk, TP.prev_succ, HV1.out])
        have hpg := HPG.out
        rw [HPV.out] at hpg
        have ew1 : wrap64 ((k : Int) - 1) = (j : Int) := by rw [hjk]; have := IntWalk.wrap64_in (j : Int) (by omega); simpa using this
        have ew2 : IntKind.i64.wrap ((k : Int) - 1) = (j : Int) := by rw [hjk]; have := IntWalk.i64_in (j : Int) (by omega); simpa using this
        clear h0 hjk q0 q1 q2 g1 g2 HV1
        by_cases t1 : t.time < 0
        · have HX := Lib.hid (KF.out 2 (by rw [HO.out]; exact TP.one_time (by rw [HPV.out]; omega)) (by decide))
          go_wp2_with fail
          go_quiet (fail)
          go_wp2_with fail
          go_ret
          exact ⟨by rw [HX.out] <;> rfl, by first | exact ⟨_, rfl⟩ | exact ⟨_, World.drewN_drewN _ _ _⟩⟩
        have e1 : decide (t.time < 0) = false := decide_eq_false t1
        by_cases t2 : 86399 < t.time
        · have HX := Lib.hid (KF.out 2 (by rw [HO.out]; exact TP.one_time (by rw [HPV.out]; omega)) (by decide))
          go_wp2_with fail
          go_quiet (fail)
          go_wp2_with fail
          go_ret
          exact ⟨by rw [HX.out] <;> rfl, by first | exact ⟨_, rfl⟩ | exact ⟨_, World.drewN_drewN _ _ _⟩⟩
        have e2 : decide (86399 < t.time) = false := decide_eq_false t2
        by_cases t3 : t.time < p.time
        · have HX := Lib.hid (KF.out 2 (by rw [HO.out]; exact TP.one_time (by rw [HPV.out]; omega)) (by decide))
          go_wp2_with fail
          go_quiet (fail)
          go_wp2_with fail
          go_ret
          exact ⟨by rw [HX.out] <;> rfl, by first | exact ⟨_, rfl⟩ | exact ⟨_, World.drewN_drewN _ _ _⟩⟩
        have e3 : decide (t.time < p.time) = false := decide_eq_false t3
        have HT : Hid (TP.prev l k ≤ t.time ∧ t.time ≤ 86399) := Lib.hid (by rw [HPV.out]; omega)
        go_wp2_with fail
        go_quiet (fail)
        by_cases u1 : t.qty < 1
        · have HX := Lib.hid (KF.out 18 (by rw [HO.out]; exact TP.one_qty HT.out (by omega)) (by decide))
          go_wp2_with fail
          go_ret
          exact ⟨by rw [HX.out] <;> rfl, by first | exact ⟨_, rfl⟩ | exact ⟨_, World.drewN_drewN _ _ _⟩⟩
        by_cases u2 : 1048576 < t.qty
        · have HX := Lib.hid (KF.out 18 (by rw [HO.out]; exact TP.one_qty HT.out (by omega)) (by decide))
          go_wp2_with fail
          go_ret
          exact ⟨by rw [HX.out] <;> rfl, by first | exact ⟨_, rfl⟩ | exact ⟨_, World.drewN_drewN _ _ _⟩⟩
        by_cases u3 : t.price < -16777216
        · have HX := Lib.hid (KF.out 17 (by rw [HO.out]; exact TP.one_price HT.out (by omega) (by omega)) (by decide))
          go_wp2_with fail
          go_ret
          exact ⟨by rw [HX.out] <;> rfl, by first | exact ⟨_, rfl⟩ | exact ⟨_, World.drewN_drewN _ _ _⟩⟩
        by_cases u4 : 16777216 < t.price
        · have HX := Lib.hid (KF.out 17 (by rw [HO.out]; exact TP.one_price HT.out (by omega) (by omega)) (by decide))
          go_wp2_with fail
          go_ret
          exact ⟨by rw [HX.out] <;> rfl, by first | exact ⟨_, rfl⟩ | exact ⟨_, World.drewN_drewN _ _ _⟩⟩
        have HZ := Lib.hid (KS2.out (by rw [HO.out]; exact TP.oneT_zero.2 ⟨HT.out, by omega, by omega⟩))
        go_wp2_with fail
        go_roundw
        case rel => exact ⟨k + 1, by omega, by go_num, HZ, by first | exact ⟨_, rfl⟩ | exact ⟨_, World.drewN_drewN _ _ _⟩⟩
        case measure => simp [intOf]; omega
    · obtain rfl : k = l.length := by omega
      have HX := Lib.hid (KE.out HE.out)
      go_wp2_with fail
      go_ret
      exact ⟨by rw [HX.out] <;> rfl, nd, rfl⟩
end Go.Proofs.Ytaegapcccboinaa
