/- Contracts of layer 8: the reference's Check. -/
import Derived.Test.YtnadhecgbfldmaaRateB
namespace Go.Proofs.Ytnadhecgbfldmaa
open Go.RowKit Go.Recs
set_option linter.unusedVariables false

set_option maxHeartbeats 2000000 in
set_option maxRecDepth 100000 in
theorem rcheck_any (A : Option Addr) (l : List RM.Rate) (cap : Nat) (w : World) (hI : Rates w A l) :
    Calls Try.prog 32 #[.slice A l.length cap] w fun e w' => e = .returned (.int .i64 (RM.checkE l)) ∧ w = w' := by
  have K1 := Lib.hid (@RM.check_len l)
  have K2 := Lib.hid (@RM.check_name l)
  have K3 := Lib.hid (@RM.check_dup l)
  have K4 := Lib.hid (@RM.check_rate l)
  have K5 := Lib.hid (@RM.check_ok l)
  have hlen := hI.len
  generalize RM.checkE l = x at *
  by_cases h0 : l.length = 0
  · have HX := Lib.hid (K1.out (.inl h0))
    have c0 : ((l.length : Int) == 0) = true := beq_t (by omega)
    clear h0
    go_enter Try.func32, Try.ntmps32
    go_wp2_with fail
    go_ret
    exact ⟨by rw [HX.out]; rfl, rfl⟩
  · have c0 : ((l.length : Int) == 0) = false := beq_f (by omega)
    have p0 : 0 < l.length := by omega
    by_cases h8 : 8 < l.length
    · have HX := Lib.hid (K1.out (.inr h8))
      clear h0
      go_enter Try.func32, Try.ntmps32
      go_wp2_with fail
      go_ret
      exact ⟨by rw [HX.out]; rfl, rfl⟩
    · have HL : Hid (¬ (l.length = 0 ∨ 8 < l.length)) := Lib.hid (by omega)
      clear h0 K1
      go_enter Try.func32, Try.ntmps32
      go_wp2_with fail
      go_loop [3] (fun i => ∃ k : Nat, k ≤ l.length ∧ i = .int .i64 k ∧ Hid ((l.take k).all RM.nm = true)) (fun i => l.length - (intOf i).toNat)
      case atStart => exact ⟨0, by omega, rfl, Lib.hid rfl⟩
      case round =>
        obtain ⟨k, hk, rfl, HE⟩ := hrel
        by_cases hlt : k < l.length
        · obtain ⟨b, off, t, m, rfl, hb, hc0, hc1, HV, t1, m1, m2⟩ := hI.get hlt
          have HI := Lib.hid hI
          clear hI
          have t2 : t.size ≤ 9223372036854775807 := t1
          have C1 := Lib.hid (fun ww => rname_any t ww t2)
          have HS := Lib.hid (@RM.all_step RM.nm l k hlt HE.out)
          have HF := Lib.hid (@RM.all_not RM.nm l k hlt)
          rw [HV.out] at HS HF
          have HM : Hid (RM.nm (t, m) = WM.name (L t)) := Lib.hid rfl
          rw [HM.out] at HS HF
          generalize WM.name (L t) = nb at *
          clear t1
          cases nb
          · have HX := Lib.hid (K2.out HL.out (HF.out rfl))
            go_wp2_with fail
            refine (C1.out _).mono ?_
            rintro e w1 ⟨rfl, rfl⟩
            go_wp2_with fail
            go_ret
            exact ⟨by rw [HX.out]; rfl, rfl⟩
          · have HS2 := Lib.hid (HS.out rfl)
            go_wp2_with fail
            refine (C1.out _).mono ?_
            rintro e w1 ⟨rfl, rfl⟩
            go_wp2_with fail
            go_round
            case rel => exact ⟨k + 1, by omega, by go_num, HS2⟩
            case measure => simp [intOf]; omega
        · obtain rfl : k = l.length := by omega
          have HA : Hid (l.all RM.nm = true) := Lib.hid (by have := HE.out; rw [List.take_length] at this; exact this)
          clear HE K2
          go_wp2_with fail
          go_loop [4, 5, 6] (fun i _ _ => ∃ k : Nat, k ≤ l.length ∧ i = .int .i64 k ∧ Hid (RM.dupU l k = false)) (fun i _ _ => l.length - (intOf i).toNat)
          case atStart => exact ⟨0, by omega, rfl, Lib.hid rfl⟩
          case round =>
            obtain ⟨k, hk, rfl, HE⟩ := hrel
            by_cases hlt : k < l.length
            · have C1 := Lib.hid (fun s => rfind_any A l cap s w hI)
              obtain ⟨b, off, t, m, rfl, hb, hc0, hc1, HV, t1, m1, m2⟩ := hI.get hlt
              have HI := Lib.hid hI
              clear hI
              have C2 := Lib.hid (C1.out t)
              have HT := Lib.hid (@RM.twice_iff l k hlt)
              rw [HV.out] at HT
              have HS := Lib.hid (@RM.dup_step l k HE.out)
              have HF := Lib.hid (@RM.dup_yes l k hlt)
              rw [HT.out] at HS HF
              clear C1 HT
              have r := RM.fN_range l t
              generalize RM.fN l t = fn at *
              generalize RM.fB l t = fb at *
              obtain ⟨r1, r2⟩ := r
              cases hd : (fn != (k : Int))
              · rw [hd] at HS
                have HS2 := Lib.hid (HS.out rfl)
                go_wp2_with fail
                refine (C2.out).mono ?_
                rintro e w1 ⟨rfl, rfl⟩
                go_wp2_with fail
                go_round
                case rel => exact ⟨k + 1, by omega, by go_num, HS2⟩
                case measure => simp [intOf]; omega
              · rw [hd] at HF
                have HX := Lib.hid (K3.out HL.out HA.out (HF.out rfl))
                go_wp2_with fail
                refine (C2.out).mono ?_
                rintro e w1 ⟨rfl, rfl⟩
                go_wp2_with fail
                go_ret
                exact ⟨by rw [HX.out]; rfl, rfl⟩
            · obtain rfl : k = l.length := by omega
              have HD := HE
              clear HE K3
              go_wp2_with fail
              go_loop [7] (fun i => ∃ k : Nat, k ≤ l.length ∧ i = .int .i64 k ∧ Hid ((l.take k).all RM.okM = true) ∧ Hid (0 < k → (RM.at_ l 0).2 = 1000000)) (fun i => l.length - (intOf i).toNat)
              case atStart => exact ⟨0, by omega, rfl, Lib.hid rfl, Lib.hid (fun h => by omega)⟩
              case round =>
                obtain ⟨k, hk, rfl, HE, HG⟩ := hrel
                by_cases hlt : k < l.length
                · obtain ⟨b, off, t, m, rfl, hb, hc0, hc1, HV, t1, m1, m2⟩ := hI.get hlt
                  have HI := Lib.hid hI
                  clear hI
                  have HS := Lib.hid (@RM.all_step RM.okM l k hlt HE.out)
                  have HF := Lib.hid (@RM.all_not RM.okM l k hlt)
                  rw [HV.out] at HS HF
                  by_cases q1 : m < 1
                  · have HX := Lib.hid (K4.out HL.out HA.out HD.out (fun g => by rw [HF.out (by simp [RM.okM]; omega)] at g; cases g.1))
                    go_wp2_with fail
                    go_ret
                    exact ⟨by rw [HX.out]; rfl, rfl⟩
                  · by_cases q2 : 1000000000000 < m
                    · have HX := Lib.hid (K4.out HL.out HA.out HD.out (fun g => by rw [HF.out (by simp [RM.okM]; omega)] at g; cases g.1))
                      go_wp2_with fail
                      go_ret
                      exact ⟨by rw [HX.out]; rfl, rfl⟩
                    · have HS2 := Lib.hid (HS.out (by simp [RM.okM]; omega))
                      by_cases hk0 : k = 0
                      · subst hk0
                        rw [Nat.zero_mul, Nat.add_zero] at hc0 hc1
                        by_cases q3 : m = 1000000
                        · have d3 : (m != 1000000) = false := by simpa using q3
                          have HG2 : Hid (0 < 0 + 1 → (RM.at_ l 0).2 = 1000000) := Lib.hid (fun _ => by rw [HV.out]; exact q3)
                          clear q3
                          go_wp2_with fail
                          go_round
                          case rel => exact ⟨0 + 1, by omega, by go_num, HS2, HG2⟩
                          case measure => simp [intOf]; omega
                        · have d3 : (m != 1000000) = true := by simpa using q3
                          have HX := Lib.hid (K4.out HL.out HA.out HD.out (fun g => by rw [HV.out] at g; exact q3 g.2))
                          clear q3
                          go_wp2_with fail
                          go_ret
                          exact ⟨by rw [HX.out]; rfl, rfl⟩
                      · have d0 : ((k : Int) == 0) = false := beq_f (by omega)
                        have HG2 : Hid (0 < k + 1 → (RM.at_ l 0).2 = 1000000) := Lib.hid (fun _ => HG.out (by omega))
                        clear hk0
                        go_wp2_with fail
                        go_round
                        case rel => exact ⟨k + 1, by omega, by go_num, HS2, HG2⟩
                        case measure => simp [intOf]; omega
                · obtain rfl : k = l.length := by omega
                  have HE2 : Hid (l.all RM.okM = true) := Lib.hid (by have := HE.out; rw [List.take_length] at this; exact this)
                  have HX := Lib.hid (K5.out HL.out HA.out HD.out ⟨HE2.out, HG.out p0⟩)
                  go_wp2_with fail
                  go_ret
                  exact ⟨by rw [HX.out]; rfl, rfl⟩
end Go.Proofs.Ytnadhecgbfldmaa
