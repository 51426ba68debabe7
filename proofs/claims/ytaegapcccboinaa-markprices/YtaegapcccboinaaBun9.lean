/- Put together: MrkG, TapG, TapH, TapI. -/
import Derived.Test.YtaegapcccboinaaBun8
import Derived.Test.YtaegapcccboinaaBun5
import Derived.BigQuiet
/- Contracts of layer 18's reference: within, Mid. -/
namespace Go.Proofs.Ytaegapcccboinaa
open Go.RowKit Go.Recs
set_option linter.unusedVariables false
set_option linter.unusedSimpArgs false
theorem rwithin18_any (n a b : Int) (w : World) :
    Calls Try.prog 60 #[.int .i64 n, .int .i64 a, .int .i64 b] w fun e w' => e = .returned (.bool (QM.within n a b)) ∧ w = w' := by
  by_cases h1 : a ≤ n
  · by_cases h2 : n ≤ b
    · have e : QM.within n a b = true := QM.within_true.2 ⟨h1, h2⟩
      rw [e]; clear e
      go_enter Try.func60, Try.ntmps60
      go_wp2
      go_ret
      exact ⟨rfl, rfl⟩
    · have e : QM.within n a b = false := QM.within_false.2 (.inr (by omega))
      rw [e]; clear e
      go_enter Try.func60, Try.ntmps60
      go_wp2
      go_ret
      exact ⟨rfl, rfl⟩
  · have e : QM.within n a b = false := QM.within_false.2 (.inl (by omega))
    rw [e]; clear e
    go_enter Try.func60, Try.ntmps60
    go_wp2
    go_ret
    exact ⟨rfl, rfl⟩
theorem rwithin18p_any (n : Int) (w : World) : Calls Try.prog 60 #[.int .i64 n, .int .i64 (-16777216), .int .i64 16777216] w fun e w' => e = .returned (.bool (MK.isP n)) ∧ w = w' := rwithin18_any n (-16777216) 16777216 w
set_option maxHeartbeats 4000000 in
theorem rmid18_any (b a t : Int) (w : World) : Calls Try.prog 27 #[.int .i64 b, .int .i64 a, .int .i64 t] w fun e w' => e = .returned (.tuple #[.int .i64 (MK.midN b a t), .int .i64 (MK.midE b a t)]) ∧ Below w.heap.size w w' := by
  have C1 := Lib.hid (fun ww => rwithin18_any t 1 16777216 ww)
  have CP := Lib.hid (fun n ww => rwithin18p_any n ww)
  cases g1 : QM.within t 1 16777216
  · rw [(MK.mid_tick g1).1, (MK.mid_tick g1).2]
    rw [g1] at C1
    clear g1
    go_enter Try.func27, Try.ntmps27
    go_wp2_with fail
    refine (C1.out _).mono ?_
    rintro e w1 ⟨rfl, rfl⟩
    go_wp2_with fail
    go_ret2
    exact ⟨rfl, Below.refl _ _⟩
  · have ht := QM.within_true.1 g1
    cases g2 : MK.midB b a
    · have K := MK.midB_false.1 g2
      obtain ⟨k1, ⟨n1, n2⟩, p1, p2⟩ := MK.mid_bounds ht K.1 K.2.1
      rw [(MK.mid_ok g1 g2).1, (MK.mid_ok g1 g2).2]
      have C2 := fun ww => rmuldiv_any (b + a) 1 (2 * t) 5 ww
      have e : MK.midK b a t = CM.mdN (b + a) 1 (2 * t) 5 := rfl
      rw [k1, ← e] at C2
      have C2 := Lib.hid C2
      have i1 : MK.isP b = true := MK.isP_true.2 K.1
      have i2 : MK.isP a = true := MK.isP_true.2 K.2.1
      have CB1 := Lib.hid (fun ww => CP.out b ww)
      have CA1 := Lib.hid (fun ww => CP.out a ww)
      rw [i1] at CB1
      rw [i2] at CA1
      rw [g1] at C1
      obtain ⟨⟨b1, b2⟩, ⟨a1, a2⟩, hle⟩ := K
      obtain ⟨t1, t2⟩ := ht
      have hnl : ¬ a < b := by omega
      generalize MK.midK b a t = k at *
      clear g1 g2 i1 i2 e CP
      go_enter Try.func27, Try.ntmps27
      go_wp2_with fail
      refine (C1.out _).mono ?_
      rintro e w1 ⟨rfl, rfl⟩
      go_wp2_with fail
      refine (CB1.out _).mono ?_
      rintro e w1 ⟨rfl, rfl⟩
      go_wp2_with fail
      refine (CA1.out _).mono ?_
      rintro e w1 ⟨rfl, rfl⟩
      go_wp2_with fail
      refine (C2.out _).mono ?_
      rintro e w1 ⟨rfl, rfl⟩
      go_wp2_with fail
      go_ret2
      exact ⟨rfl, Below.refl _ _⟩
    · rw [(MK.mid_price g1 g2).1, (MK.mid_price g1 g2).2]
      rw [g1] at C1
      unfold MK.midB at g2
      have CB1 := Lib.hid (fun ww => CP.out b ww)
      have CA1 := Lib.hid (fun ww => CP.out a ww)
      clear g1 CP
      cases i1 : MK.isP b
      · rw [i1] at CB1
        clear g2 i1
        go_enter Try.func27, Try.ntmps27
        go_wp2_with fail
        refine (C1.out _).mono ?_
        rintro e w1 ⟨rfl, rfl⟩
        go_wp2_with fail
        refine (CB1.out _).mono ?_
        rintro e w1 ⟨rfl, rfl⟩
        go_wp2_with fail
        go_ret2
        exact ⟨rfl, Below.refl _ _⟩
      · rw [i1] at CB1
        cases i2 : MK.isP a
        · rw [i2] at CA1
          clear g2 i1 i2
          go_enter Try.func27, Try.ntmps27
          go_wp2_with fail
          refine (C1.out _).mono ?_
          rintro e w1 ⟨rfl, rfl⟩
          go_wp2_with fail
          refine (CB1.out _).mono ?_
          rintro e w1 ⟨rfl, rfl⟩
          go_wp2_with fail
          refine (CA1.out _).mono ?_
          rintro e w1 ⟨rfl, rfl⟩
          go_wp2_with fail
          go_ret2
          exact ⟨rfl, Below.refl _ _⟩
        · rw [i2] at CA1
          rw [i1, i2] at g2
          have hlt : a < b := by simpa using g2
          clear g2 i1 i2
          go_enter Try.func27, Try.ntmps27
          go_wp2_with fail
          refine (C1.out _).mono ?_
          rintro e w1 ⟨rfl, rfl⟩
          go_wp2_with fail
          refine (CB1.out _).mono ?_
          rintro e w1 ⟨rfl, rfl⟩
          go_wp2_with fail
          refine (CA1.out _).mono ?_
          rintro e w1 ⟨rfl, rfl⟩
          go_wp2_with fail
          go_ret2
          exact ⟨rfl, Below.refl _ _⟩
end Go.Proofs.Ytaegapcccboinaa

/- Contracts of layer 17's reference: Check, Volume, Vwap, Window. -/
namespace Go.Proofs.Ytaegapcccboinaa
open Go.RowKit Go.Recs
set_option linter.unusedVariables false
set_option linter.unusedSimpArgs false
set_option maxRecDepth 100000 in
set_option maxHeartbeats 4000000 in
theorem rtcheck17_any (A : Option Addr) (l : List TP.Tick) (n cap : Nat) (hn : n = l.length) (w : World) (hI : Ticks w A l) :
    Calls Try.prog 46 #[.slice A n cap] w fun e w' => e = .returned (.int .i64 (TP.allE l)) ∧ ∃ k, w' = w.drewN k := by
  subst hn
  have hlen := hI.len
  by_cases h32 : 1024 < l.length
  · have e : TP.allE l = 8 := by unfold TP.allE; rw [if_pos h32]
    rw [e]; clear e hI
    go_enter Try.func46, Try.ntmps46
    go_wp2_with fail
    go_ret
    exact ⟨rfl, 0, rfl⟩
  have KS := Lib.hid (fun k => @TP.all_stop l k h32)
  have KE : Hid (TP.uptoE l l.length = 0 → TP.allE l = 0) := Lib.hid (fun h => by unfold TP.allE; rw [if_neg h32, h])
  generalize TP.allE l = x at *
  have HI := Lib.hid hI
  clear hI
  go_enter Try.func46, Try.ntmps46
  go_wp2_with fail
  clear h32
  go_loopw [3] (fun i wr => ∃ k : Nat, k ≤ l.length ∧ i = .int .i64 (k : Int) ∧ Hid (TP.uptoE l k = 0) ∧ ∃ nd, wr = w.drewN nd) (fun i _ => l.length - (intOf i).toNat)
  case atStart => exact ⟨0, by omega, rfl, Lib.hid rfl, 0, rfl⟩
  case round =>
    obtain ⟨k, hk, rfl, HE, nd, rfl⟩ := hrel
    by_cases hlt : k < l.length
    · obtain ⟨b, off, t, rfl, hb, HV, ⟨q0, q1, q2⟩, d0, d1, d2⟩ := ticks_get HI.out hlt
      have HO := Lib.hid (tick_at HV.out)
      have KF : Hid (∀ c, TP.oneE l k = c → c ≠ 0 → x = c) := Lib.hid (fun c h h2 => by rw [← h]; exact KS.out k hlt HE.out (by rw [h]; exact h2))
      have KS2 := Lib.hid (fun h => @TP.upto_step l k HE.out h)
      have HPG := Lib.hid (TP.prev_ge (Nat.le_of_lt hlt) HE.out)
      clear q0 q1 q2 KS HV
      by_cases h0 : k = 0
      · subst h0
        simp only [Nat.zero_mul, Nat.add_zero] at d0 d1 d2
        have hgt : ¬ (0 : Int) < 0 := by omega
        by_cases t1 : t.time < 0
        · have HX := Lib.hid (KF.out 2 (by rw [HO.out]; exact TP.one_time (by show ¬ (0 ≤ _ ∧ _); omega)) (by decide))
          go_wp2_with fail
          go_quiet (fail)
          go_wp2_with fail
          go_ret
          exact ⟨by rw [HX.out] <;> rfl, by first | exact ⟨_, rfl⟩ | exact ⟨_, World.drewN_drewN _ _ _⟩⟩
        have e1 : decide (t.time < 0) = false := decide_eq_false t1
        by_cases t2 : 86399 < t.time
        · have HX := Lib.hid (KF.out 2 (by rw [HO.out]; exact TP.one_time (by show ¬ (0 ≤ _ ∧ _); omega)) (by decide))
          go_wp2_with fail
          go_quiet (fail)
          go_wp2_with fail
          go_ret
          exact ⟨by rw [HX.out] <;> rfl, by first | exact ⟨_, rfl⟩ | exact ⟨_, World.drewN_drewN _ _ _⟩⟩
        have e2 : decide (86399 < t.time) = false := decide_eq_false t2
        have HT : Hid (TP.prev l 0 ≤ t.time ∧ t.time ≤ 86399) := Lib.hid (by rw [TP.prev_zero]; omega)
        go_wp2_with fail
        go_quiet (fail)
        by_cases u1 : t.qty < 1
        · have HX := Lib.hid (KF.out 18 (by rw [HO.out]; exact TP.one_qty HT.out (by omega)) (by decide))
          go_wp2_with fail
          go_ret
          exact ⟨by rw [HX.out] <;> rfl, by first | exact ⟨_, rfl⟩ | exact ⟨_, World.drewN_drewN _ _ _⟩⟩
        by_cases u2 : 1048576 < t.qty
        · have HX := Lib.hid (KF.out 18 (by rw [HO.out]; exact TP.one_qty HT.out (by omega)) (by decide))
          go_wp2_with fail
          go_ret
          exact ⟨by rw [HX.out] <;> rfl, by first | exact ⟨_, rfl⟩ | exact ⟨_, World.drewN_drewN _ _ _⟩⟩
        by_cases u3 : t.price < -16777216
        · have HX := Lib.hid (KF.out 17 (by rw [HO.out]; exact TP.one_price HT.out (by omega) (by omega)) (by decide))
          go_wp2_with fail
          go_ret
          exact ⟨by rw [HX.out] <;> rfl, by first | exact ⟨_, rfl⟩ | exact ⟨_, World.drewN_drewN _ _ _⟩⟩
        by_cases u4 : 16777216 < t.price
        · have HX := Lib.hid (KF.out 17 (by rw [HO.out]; exact TP.one_price HT.out (by omega) (by omega)) (by decide))
          go_wp2_with fail
          go_ret
          exact ⟨by rw [HX.out] <;> rfl, by first | exact ⟨_, rfl⟩ | exact ⟨_, World.drewN_drewN _ _ _⟩⟩
        have HZ := Lib.hid (KS2.out (by rw [HO.out]; exact TP.oneT_zero.2 ⟨HT.out, by omega, by omega⟩))
        go_wp2_with fail
        go_roundw
        case rel => exact ⟨1, by omega, by go_num, HZ, by first | exact ⟨_, rfl⟩ | exact ⟨_, World.drewN_drewN _ _ _⟩⟩
        case measure => simp [intOf]; omega
      · obtain ⟨j, hjk⟩ : ∃ j, k = j + 1 := ⟨k - 1, by omega⟩
        have hjl : j < l.length := by omega
        have hk0 : 0 < k := by omega
        obtain ⟨b', off', p, e', hb1, HV1, ⟨q0, q1, q2⟩, g0, g1, g2⟩ := ticks_get HI.out hjl
        injection e' with e'; injection e' with e1' e2'; subst e1' e2'
        have HPV : Hid (TP.prev l k = p.time) := Lib.hid (by rw [hjk, TP.prev_succ, HV1.out])
        have hpg := HPG.out
        rw [HPV.out] at hpg
        have ew1 : wrap64 ((k : Int) - 1) = (j : Int) := by rw [hjk]; have := IntWalk.wrap64_in (j : Int) (by omega); simpa using this
        have ew2 : IntKind.i64.wrap ((k : Int) - 1) = (j : Int) := by rw [hjk]; have := IntWalk.i64_in (j : Int) (by omega); simpa using this
        clear h0 hjk q0 q1 q2 g1 g2 HV1
        by_cases t1 : t.time < 0
        · have HX := Lib.hid (KF.out 2 (by rw [HO.out]; exact TP.one_time (by rw [HPV.out]; omega)) (by decide))
          go_wp2_with fail
          go_quiet (fail)
          go_wp2_with fail
          go_ret
          exact ⟨by rw [HX.out] <;> rfl, by first | exact ⟨_, rfl⟩ | exact ⟨_, World.drewN_drewN _ _ _⟩⟩
        have e1 : decide (t.time < 0) = false := decide_eq_false t1
        by_cases t2 : 86399 < t.time
        · have HX := Lib.hid (KF.out 2 (by rw [HO.out]; exact TP.one_time (by rw [HPV.out]; omega)) (by decide))
          go_wp2_with fail
          go_quiet (fail)
          go_wp2_with fail
          go_ret
          exact ⟨by rw [HX.out] <;> rfl, by first | exact ⟨_, rfl⟩ | exact ⟨_, World.drewN_drewN _ _ _⟩⟩
        have e2 : decide (86399 < t.time) = false := decide_eq_false t2
        by_cases t3 : t.time < p.time
        · have HX := Lib.hid (KF.out 2 (by rw [HO.out]; exact TP.one_time (by rw [HPV.out]; omega)) (by decide))
          go_wp2_with fail
          go_quiet (fail)
          go_wp2_with fail
          go_ret
          exact ⟨by rw [HX.out] <;> rfl, by first | exact ⟨_, rfl⟩ | exact ⟨_, World.drewN_drewN _ _ _⟩⟩
        have e3 : decide (t.time < p.time) = false := decide_eq_false t3
        have HT : Hid (TP.prev l k ≤ t.time ∧ t.time ≤ 86399) := Lib.hid (by rw [HPV.out]; omega)
        go_wp2_with fail
        go_quiet (fail)
        by_cases u1 : t.qty < 1
        · have HX := Lib.hid (KF.out 18 (by rw [HO.out]; exact TP.one_qty HT.out (by omega)) (by decide))
          go_wp2_with fail
          go_ret
          exact ⟨by rw [HX.out] <;> rfl, by first | exact ⟨_, rfl⟩ | exact ⟨_, World.drewN_drewN _ _ _⟩⟩
        by_cases u2 : 1048576 < t.qty
        · have HX := Lib.hid (KF.out 18 (by rw [HO.out]; exact TP.one_qty HT.out (by omega)) (by decide))
          go_wp2_with fail
          go_ret
          exact ⟨by rw [HX.out] <;> rfl, by first | exact ⟨_, rfl⟩ | exact ⟨_, World.drewN_drewN _ _ _⟩⟩
        by_cases u3 : t.price < -16777216
        · have HX := Lib.hid (KF.out 17 (by rw [HO.out]; exact TP.one_price HT.out (by omega) (by omega)) (by decide))
          go_wp2_with fail
          go_ret
          exact ⟨by rw [HX.out] <;> rfl, by first | exact ⟨_, rfl⟩ | exact ⟨_, World.drewN_drewN _ _ _⟩⟩
        by_cases u4 : 16777216 < t.price
        · have HX := Lib.hid (KF.out 17 (by rw [HO.out]; exact TP.one_price HT.out (by omega) (by omega)) (by decide))
          go_wp2_with fail
          go_ret
          exact ⟨by rw [HX.out] <;> rfl, by first | exact ⟨_, rfl⟩ | exact ⟨_, World.drewN_drewN _ _ _⟩⟩
        have HZ := Lib.hid (KS2.out (by rw [HO.out]; exact TP.oneT_zero.2 ⟨HT.out, by omega, by omega⟩))
        go_wp2_with fail
        go_roundw
        case rel => exact ⟨k + 1, by omega, by go_num, HZ, by first | exact ⟨_, rfl⟩ | exact ⟨_, World.drewN_drewN _ _ _⟩⟩
        case measure => simp [intOf]; omega
    · obtain rfl : k = l.length := by omega
      have HX := Lib.hid (KE.out HE.out)
      go_wp2_with fail
      go_ret
      exact ⟨by rw [HX.out] <;> rfl, nd, rfl⟩
end Go.Proofs.Ytaegapcccboinaa

/- Contracts of layer 17's reference: Volume. -/
namespace Go.Proofs.Ytaegapcccboinaa
open Go.RowKit Go.Recs
set_option linter.unusedVariables false
set_option linter.unusedSimpArgs false
set_option maxRecDepth 100000 in
set_option maxHeartbeats 4000000 in
theorem rvolume17_any (A : Option Addr) (l : List TP.Tick) (n cap : Nat) (hn : n = l.length) (w : World) (hI : Ticks w A l) :
    Calls Try.prog 40 #[.slice A n cap] w fun e w' => e = .returned (.tuple #[.int .i64 (TP.volN l), .int .i64 (TP.allE l)]) ∧ ∃ k, w' = w.drewN k := by
  have C1 := Lib.hid (rtcheck17_any A l n cap hn w hI)
  subst hn
  have hlen := hI.len
  by_cases h : TP.allE l = 0
  · have e : TP.volN l = TP.vol l := by unfold TP.volN; rw [if_pos h]
    have hg := TP.good h
    have KB : Hid (∀ k, k < l.length → (0 ≤ TP.volU l k ∧ TP.volU l k ≤ 1073741824) ∧ (1 ≤ (TP.tAt l k).qty ∧ (TP.tAt l k).qty ≤ 1048576) ∧ TP.volU l (k + 1) = TP.volU l k + (TP.tAt l k).qty) := Lib.hid (fun k hk => by
      have := TP.vol_bounds hg k (by omega)
      have := hg.len
      exact ⟨by omega, (hg.each k hk).2.1, TP.volU_succ hk⟩)
    have KE : Hid (TP.volU l l.length = TP.vol l) := Lib.hid (TP.volU_all l)
    rw [h] at C1 ⊢
    rw [e]
    generalize TP.vol l = x at *
    have HI := Lib.hid hI
    clear h e hI hg
    go_enter Try.func40, Try.ntmps40
    go_wp2_with fail
    refine C1.out.mono ?_
    rintro e w1 ⟨rfl, n1, rfl⟩
    go_wp2_with fail
    go_loopw [5, 6] (fun a i wr => ∃ k : Nat, k ≤ l.length ∧ i = .int .i64 (k : Int) ∧ (∃ y : Int, a = .int .i64 y ∧ Hid (y = TP.volU l k)) ∧ ∃ nd, wr = w.drewN nd) (fun _ i _ => l.length - (intOf i).toNat)
    case atStart => exact ⟨0, by omega, rfl, ⟨0, rfl, Lib.hid rfl⟩, n1, rfl⟩
    case round =>
      obtain ⟨k, hk, rfl, ⟨y, rfl, HY⟩, nd, rfl⟩ := hrel
      by_cases hlt : k < l.length
      · obtain ⟨b, off, t, rfl, hb, HV, ⟨q0, q1, q2⟩, d0, d1, d2⟩ := ticks_get HI.out hlt
        obtain ⟨⟨y1, y2⟩, ⟨z1, z2⟩, hs⟩ := KB.out k hlt
        rw [HV.out] at z1 z2 hs
        rw [← HY.out] at y1 y2 hs
        have HS := Lib.hid hs.symm
        clear hs q0 q1 q2 HV HY
        go_wp2_with fail
        go_roundw
        case rel => exact ⟨k + 1, by omega, by go_num, ⟨_, rfl, HS⟩, _, rfl⟩
        case measure => simp [intOf]; omega
      · obtain rfl : k = l.length := by omega
        obtain rfl : y = x := HY.out.trans KE.out
        go_wp2_with fail
        go_ret2
        exact ⟨rfl, nd, rfl⟩
  · have e : TP.volN l = 0 := by unfold TP.volN; rw [if_neg h]
    rw [e]
    generalize TP.allE l = x at *
    have h2 : (x != 0) = true := by simpa using h
    clear e hI
    go_enter Try.func40, Try.ntmps40
    go_wp2_with fail
    refine C1.out.mono ?_
    rintro e w1 ⟨rfl, n1, rfl⟩
    go_wp2_with fail
    go_ret2
    exact ⟨rfl, n1, rfl⟩
end Go.Proofs.Ytaegapcccboinaa

/- Contracts of layer 17's reference: Vwap. -/
namespace Go.Proofs.Ytaegapcccboinaa
open Go.RowKit Go.Recs
set_option linter.unusedVariables false
set_option linter.unusedSimpArgs false
set_option maxRecDepth 100000 in
set_option maxHeartbeats 4000000 in
theorem rvwap17_any (A : Option Addr) (l : List TP.Tick) (n cap : Nat) (step mode : Int) (hn : n = l.length) (w : World) (hI : Ticks w A l) :
    Calls Try.prog 13 #[.slice A n cap, .int .i64 step, .int .i64 mode] w fun e w' => e = .returned (.tuple #[.int .i64 (TP.vwN l step mode), .int .i64 (TP.vwE l step mode)]) ∧ ∃ k, w' = w.drewN k := by
  have C1 := Lib.hid (rvolume17_any A l n cap hn w hI)
  subst hn
  have hlen := hI.len
  by_cases h : TP.allE l = 0
  · have e : TP.volN l = TP.vol l := by unfold TP.volN; rw [if_pos h]
    rw [h, e] at C1
    by_cases g1 : 1 ≤ step ∧ step ≤ 16777216
    · by_cases g2 : 1 ≤ mode ∧ mode ≤ 5
      · by_cases g3 : l.length = 0
        · have ⟨e1, e2⟩ := @TP.vw_none l step mode h (QM.within_true.2 g1) (QM.within_true.2 g2) g3
          rw [e1, e2]
          generalize TP.vol l = x at *
          obtain ⟨s1, s2⟩ := g1; obtain ⟨m1, m2⟩ := g2
          rw [g3] at C1 ⊢
          clear h e hI e1 e2 hlen g3
          go_enter Try.func13, Try.ntmps13
          go_wp2_with fail
          refine C1.out.mono ?_
          rintro e w1 ⟨rfl, n1, rfl⟩
          go_wp2_with fail
          go_ret2
          exact ⟨rfl, n1, rfl⟩
        · have ⟨e1, e2⟩ := @TP.vw_ok l step mode h (QM.within_true.2 g1) (QM.within_true.2 g2) (by omega)
          rw [e1, e2]
          have hg := TP.good h
          obtain ⟨⟨v1, v2⟩, ⟨k1, k2⟩, _, he, ⟨u1, u2⟩, p1, p2⟩ := TP.vw_bounds (mode := mode) hg g1 g2.1 g2.2 (by omega)
          have C4 := fun ww => rmuldiv_any (TP.val l) 1 (TP.vol l * step) mode ww
          have HK : TP.vwK l step mode = CM.mdN (TP.val l) 1 (TP.vol l * step) mode := rfl
          rw [he, ← HK] at C4
          have C5 := Lib.hid C4
          have KB : Hid (∀ k, k < l.length → (-18014398509481984 ≤ TP.valU l k ∧ TP.valU l k ≤ 18014398509481984) ∧ (-17592186044416 ≤ (TP.tAt l k).qty * (TP.tAt l k).price ∧ (TP.tAt l k).qty * (TP.tAt l k).price ≤ 17592186044416) ∧ TP.valU l (k + 1) = TP.valU l k + (TP.tAt l k).qty * (TP.tAt l k).price) := Lib.hid (fun k hk => by
            have := TP.val_bounds hg k (by omega)
            have := hg.len
            have e2 := hg.each k hk
            have := TP.mul_bound e2.2.2 e2.2.1
            rw [Int.mul_comm (TP.tAt l k).qty]
            exact ⟨by omega, this, TP.valU_succ hk⟩)
          have KE : Hid (TP.valU l l.length = TP.val l) := Lib.hid (TP.valU_all l)
          obtain ⟨s1, s2⟩ := g1; obtain ⟨m1, m2⟩ := g2
          have h1 : ¬ (l.length : Int) = 0 := by omega
          have HI := Lib.hid hI
          clear h e hI e1 e2 C4 HK he hg
          generalize TP.vwK l step mode = kk at *
          generalize TP.vol l = q at *
          generalize TP.val l = v at *
          go_enter Try.func13, Try.ntmps13
          go_wp2_with fail
          refine C1.out.mono ?_
          rintro e w1 ⟨rfl, n1, rfl⟩
          go_wp2_with fail
          go_loopw [10, 11] (fun a i wr => ∃ k : Nat, k ≤ l.length ∧ i = .int .i64 (k : Int) ∧ (∃ y : Int, a = .int .i64 y ∧ Hid (y = TP.valU l k)) ∧ ∃ nd, wr = w.drewN nd) (fun _ i _ => l.length - (intOf i).toNat)
          case atStart => exact ⟨0, by omega, rfl, ⟨0, rfl, Lib.hid rfl⟩, n1, rfl⟩
          case round =>
            obtain ⟨k, hk, rfl, ⟨y, rfl, HY⟩, nd, rfl⟩ := hrel
            by_cases hlt : k < l.length
            · obtain ⟨b, off, t, rfl, hb, HV, ⟨q0, q1, q2⟩, d0, d1, d2⟩ := ticks_get HI.out hlt
              obtain ⟨⟨y1, y2⟩, ⟨z1, z2⟩, hs⟩ := KB.out k hlt
              rw [HV.out] at z1 z2 hs
              rw [← HY.out] at y1 y2 hs
              have HS := Lib.hid hs.symm
              clear hs q0 q1 q2 HV HY KB KE C5
              go_wp2_with fail
              go_quiet (fail)
              go_wp2_with fail
              go_roundw
              case rel => exact ⟨k + 1, by omega, by go_num, ⟨_, rfl, HS⟩, _, rfl⟩
              case measure => simp [intOf]; omega
            · obtain rfl : k = l.length := by omega
              obtain rfl : y = v := HY.out.trans KE.out
              clear KB KE
              go_wp2_with fail
              refine (C5.out _).mono ?_
              rintro e w3 ⟨rfl, rfl⟩
              go_wp2_with fail
              go_ret2
              exact ⟨rfl, nd, rfl⟩
      · have ⟨e1, e2⟩ := @TP.vw_mode l step mode h (QM.within_true.2 g1) (by rw [QM.within_false]; omega)
        rw [e1, e2]
        generalize TP.vol l = x at *
        obtain ⟨s1, s2⟩ := g1
        clear h e hI e1 e2
        by_cases m1 : mode < 1
        · go_enter Try.func13, Try.ntmps13
          go_wp2_with fail
          refine C1.out.mono ?_
          rintro e w1 ⟨rfl, n1, rfl⟩
          go_wp2_with fail
          go_ret2
          exact ⟨rfl, n1, rfl⟩
        · have m2 : 5 < mode := by omega
          go_enter Try.func13, Try.ntmps13
          go_wp2_with fail
          refine C1.out.mono ?_
          rintro e w1 ⟨rfl, n1, rfl⟩
          go_wp2_with fail
          go_ret2
          exact ⟨rfl, n1, rfl⟩
    · have ⟨e1, e2⟩ := @TP.vw_step l step mode h (by rw [QM.within_false]; omega)
      rw [e1, e2]
      generalize TP.vol l = x at *
      clear h e hI e1 e2
      by_cases m1 : step < 1
      · go_enter Try.func13, Try.ntmps13
        go_wp2_with fail
        refine C1.out.mono ?_
        rintro e w1 ⟨rfl, n1, rfl⟩
        go_wp2_with fail
        go_ret2
        exact ⟨rfl, n1, rfl⟩
      · have m2 : 16777216 < step := by omega
        go_enter Try.func13, Try.ntmps13
        go_wp2_with fail
        refine C1.out.mono ?_
        rintro e w1 ⟨rfl, n1, rfl⟩
        go_wp2_with fail
        go_ret2
        exact ⟨rfl, n1, rfl⟩
  · have e : TP.volN l = 0 := by unfold TP.volN; rw [if_neg h]
    have ⟨e1, e2⟩ := TP.vw_check (step := step) (mode := mode) h
    rw [e1, e2]
    rw [e] at C1
    generalize TP.allE l = x at *
    have h2 : (x != 0) = true := by simpa using h
    clear e hI e1 e2
    go_enter Try.func13, Try.ntmps13
    go_wp2_with fail
    refine C1.out.mono ?_
    rintro e w1 ⟨rfl, n1, rfl⟩
    go_wp2_with fail
    go_ret2
    exact ⟨rfl, n1, rfl⟩
end Go.Proofs.Ytaegapcccboinaa
