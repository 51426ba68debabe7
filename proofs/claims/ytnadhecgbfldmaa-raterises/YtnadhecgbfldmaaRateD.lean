/- Contracts of layer 8: the program's Check. -/
import Derived.Test.YtnadhecgbfldmaaRateB
import Derived.Deep.RegionWith
namespace Go.Proofs.Ytnadhecgbfldmaa
open Go.RowKit Go.Recs
set_option linter.unusedVariables false

set_option maxHeartbeats 2000000 in
set_option maxRecDepth 100000 in
theorem rtcheck_any (A : Option Addr) (l : List RM.Rate) (cap : Nat) (w : World) (hI : Rates w A l) (hcap : l.length ≤ cap) :
    Calls Try.prog 31 #[.slice A l.length cap] w fun e w' => e = .returned (.int .i64 (RM.checkE l)) ∧ Below w.heap.size w w' := by
  have K1 := Lib.hid (@RM.check_len l)
  have K2 := Lib.hid (@RM.check_name l)
  have K3 := Lib.hid (@RM.check_dup l)
  have K4 := Lib.hid (@RM.check_rate l)
  have K5 := Lib.hid (@RM.check_ok l)
  have hlen := hI.len
  generalize RM.checkE l = x at *
  by_cases h0 : l.length = 0
  · have HX := Lib.hid (K1.out (.inl h0))
    have c0 : ((l.length : Int) == 0) = true := beq_t (by omega)
    clear h0
    go_enter Try.func31, Try.ntmps31
    go_wp2_with fail
    go_ret
    exact ⟨by rw [HX.out]; rfl, Below.refl _ _⟩
  · have c0 : ((l.length : Int) == 0) = false := beq_f (by omega)
    have p0 : 0 < l.length := by omega
    by_cases h8 : 8 < l.length
    · have HX := Lib.hid (K1.out (.inr h8))
      clear h0
      go_enter Try.func31, Try.ntmps31
      go_wp2_with fail
      go_ret
      exact ⟨by rw [HX.out]; rfl, Below.refl _ _⟩
    · have HL : Hid (¬ (l.length = 0 ∨ 8 < l.length)) := Lib.hid (by omega)
      clear h0 K1
      go_enter Try.func31, Try.ntmps31
      go_wp2_with fail
      go_loopw [4, 21] (fun _ i wr => ∃ k : Nat, k ≤ l.length ∧ i = .int .i64 k ∧ Hid ((l.take k).all RM.nm = true) ∧ Hid (Below w.heap.size w wr)) (fun _ i _ => l.length - (intOf i).toNat)
      case atStart => exact ⟨0, by omega, rfl, Lib.hid rfl, Lib.hid (Below.refl _ _)⟩
      case round =>
        obtain ⟨k, hk, rfl, HE, HB⟩ := hrel
        by_cases hlt : k < l.length
        · obtain ⟨b, off, t, m, rfl, hb, hc0, hc1, HV, t1, m1, m2⟩ := (hI.below HB.out).get hlt
          have HI := Lib.hid hI
          clear hI
          have t2 : t.size ≤ 9223372036854775807 := t1
          have C1 := Lib.hid (fun ww => name_any t ww t2)
          have HS := Lib.hid (@RM.all_step RM.nm l k hlt HE.out)
          have HF := Lib.hid (@RM.all_not RM.nm l k hlt)
          rw [HV.out] at HS HF
          have HM : Hid (RM.nm (t, m) = WM.name (L t)) := Lib.hid rfl
          rw [HM.out] at HS HF
          have HB2 := Lib.hid (fun o => HB.out.alloc HB.out.size o)
          generalize WM.name (L t) = nb at *
          clear t1
          cases nb
          · have HX := Lib.hid (K2.out HL.out (HF.out rfl))
            go_wp2_with fail
            refine (C1.out _).mono ?_
            rintro e w1 ⟨rfl, rfl⟩
            go_wp2_with fail
            go_ret
            exact ⟨by rw [HX.out]; rfl, HB2.out _⟩
          · have HS2 := Lib.hid (HS.out rfl)
            go_wp2_with fail
            refine (C1.out _).mono ?_
            rintro e w1 ⟨rfl, rfl⟩
            go_wp2_with fail
            go_roundw
            case rel => exact ⟨k + 1, by omega, by go_num, HS2, Lib.hid (HB2.out _)⟩
            case measure => simp [intOf]; omega
        · obtain rfl : k = l.length := by omega
          have HA : Hid (l.all RM.nm = true) := Lib.hid (by have := HE.out; rw [List.take_length] at this; exact this)
          clear HE K2
          go_wp2_with fail
          go_loopw [5, 6, 7, 8, 32] (fun _ _ _ _ i wr => ∃ k : Nat, k ≤ l.length ∧ i = .int .i64 k ∧ Hid (RM.dupU l k = false) ∧ Hid (Below w.heap.size w wr)) (fun _ _ _ _ i _ => l.length - (intOf i).toNat)
          case atStart => exact ⟨0, by omega, rfl, Lib.hid rfl, HB⟩
          case round =>
            clear HB
            obtain ⟨k, hk, rfl, HE, HB⟩ := hrel
            by_cases hlt : k < l.length
            · have C1 := Lib.hid (fun s ww (hb : Below w.heap.size w ww) => find_any A (l.take k) k cap (by rw [List.length_take]; omega) s ww ((hI.below hb).take_ k))
              obtain ⟨b, off, t, m, rfl, hb, hc0, hc1, HV, t1, m1, m2⟩ := (hI.below HB.out).get hlt
              have HI := Lib.hid hI
              clear hI
              have C2 := Lib.hid (C1.out t)
              have HT : Hid (RM.twice l k = RM.fB (l.take k) t) := Lib.hid (by unfold RM.twice; rw [HV.out])
              have HS := Lib.hid (@RM.dup_step l k HE.out)
              have HF := Lib.hid (@RM.dup_yes l k hlt)
              rw [HT.out] at HS HF
              clear C1 HT
              generalize RM.fN (l.take k) t = fn at *
              generalize RM.fB (l.take k) t = fb at *
              have hkc : (k : Int) ≤ (cap : Int) := by omega
              have HB2 := Lib.hid (fun o => HB.out.alloc HB.out.size o)
              go_wp2_with fail
              go_region_with (go_at_call 29; refine (C2.out _ (HB2.out _).drew).mono ?_; rintro e w1 ⟨rfl, b1⟩)
              all_goals (
                have HB3 : Hid (Below w.heap.size w w1) := Lib.hid ((HB2.out _).drew.trans (b1.mono (HB2.out _).drew.size))
                clear b1 hc0 hc1
                cases fb
                · have HS2 := Lib.hid (HS.out rfl)
                  go_wp2_with fail
                  go_roundw
                  case rel => exact ⟨k + 1, by omega, by go_num, HS2, HB3⟩
                  case measure => simp [intOf]; omega
                · have HX := Lib.hid (K3.out HL.out HA.out (HF.out rfl))
                  go_wp2_with fail
                  go_ret
                  exact ⟨by rw [HX.out]; rfl, HB3.out⟩)
            · obtain rfl : k = l.length := by omega
              have HD := HE
              clear HE K3
              go_wp2_with fail
              go_loopw [10, 50] (fun _ i wr => ∃ k : Nat, k ≤ l.length ∧ i = .int .i64 k ∧ Hid ((l.take k).all RM.okM = true) ∧ Hid (Below w.heap.size w wr)) (fun _ i _ => l.length - (intOf i).toNat)
              case atStart => exact ⟨0, by omega, rfl, Lib.hid rfl, HB⟩
              case round =>
                clear HB
                obtain ⟨k, hk, rfl, HE, HB⟩ := hrel
                by_cases hlt : k < l.length
                · obtain ⟨b, off, t, m, rfl, hb, hc0, hc1, HV, t1, m1, m2⟩ := (hI.below HB.out).get hlt
                  have HI := Lib.hid hI
                  clear hI
                  have HS := Lib.hid (@RM.all_step RM.okM l k hlt HE.out)
                  have HF := Lib.hid (@RM.all_not RM.okM l k hlt)
                  rw [HV.out] at HS HF
                  have HB2 := Lib.hid (fun o => HB.out.alloc HB.out.size o)
                  by_cases q1 : m < 1
                  · have HX := Lib.hid (K4.out HL.out HA.out HD.out (fun g => by rw [HF.out (by simp [RM.okM]; omega)] at g; cases g.1))
                    go_wp2_with fail
                    go_ret
                    exact ⟨by rw [HX.out]; rfl, HB2.out _⟩
                  · by_cases q2 : 1000000000000 < m
                    · have HX := Lib.hid (K4.out HL.out HA.out HD.out (fun g => by rw [HF.out (by simp [RM.okM]; omega)] at g; cases g.1))
                      go_wp2_with fail
                      go_ret
                      exact ⟨by rw [HX.out]; rfl, HB2.out _⟩
                    · have HS2 := Lib.hid (HS.out (by simp [RM.okM]; omega))
                      go_wp2_with fail
                      go_roundw
                      case rel => exact ⟨k + 1, by omega, by go_num, HS2, Lib.hid (HB2.out _)⟩
                      case measure => simp [intOf]; omega
                · obtain rfl : k = l.length := by omega
                  have HE2 : Hid (l.all RM.okM = true) := Lib.hid (by have := HE.out; rw [List.take_length] at this; exact this)
                  obtain ⟨b, off, t, m, rfl, hb, hc0, hc1, HV, t1, m1, m2⟩ := (hI.below HB.out).get p0
                  have HI := Lib.hid hI
                  clear hI
                  rw [Nat.zero_mul, Nat.add_zero] at hc0 hc1
                  by_cases q3 : m = 1000000
                  · have HX := Lib.hid (K5.out HL.out HA.out HD.out ⟨HE2.out, by rw [HV.out]; exact q3⟩)
                    have d3 : (m != 1000000) = false := by simpa using q3
                    clear q3
                    go_wp2_with fail
                    go_ret
                    exact ⟨by rw [HX.out]; rfl, HB.out⟩
                  · have HX := Lib.hid (K4.out HL.out HA.out HD.out (fun g => by rw [HV.out] at g; exact q3 g.2))
                    have d3 : (m != 1000000) = true := by simpa using q3
                    clear q3
                    go_wp2_with fail
                    go_ret
                    exact ⟨by rw [HX.out]; rfl, HB.out⟩
end Go.Proofs.Ytnadhecgbfldmaa
