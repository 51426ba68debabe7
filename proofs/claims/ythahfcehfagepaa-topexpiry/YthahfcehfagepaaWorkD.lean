/- Contracts of layer 6: how many working days there are up to a day, and the day of a rank. -/
import Derived.Test.YthahfcehfagepaaWorkC
namespace KM
theorem cnt_succ (W : Int → Bool) (k : Nat) : cnt W 0 (k + 1) = cnt W 0 k + (if W (k : Int) = true then 1 else 0) := by
  show cnt W 0 k + (if W (0 + (k : Int)) = true then 1 else 0) = _
  rw [Int.zero_add]
theorem hc_step {zs : List Int} {k : Nat} {v d : Int} (hk : k < zs.length) (hv : zs.getD k 0 = v) : hc d (zs.take (k + 1)) = hc d (zs.take k) + (if v ≤ d ∧ wk v = true then 1 else 0) := by
  have e : zs.getD k 0 = zs[k] := by simp [List.getD, List.getElem?_eq_getElem hk]
  rw [List.take_succ_eq_append_getElem hk, hc_snoc, ← e, hv]
theorem unt_end {zs : List Int} {d : Int} (h : okFrom (-1) zs = 0) (h0 : -1 ≤ d) : (unt (works zs) d : Int) = (cnt wk 0 (d + 1).toNat : Int) - hc d zs := by
  have := cnt_hol h (d + 1).toNat
  rw [show (((d + 1).toNat : Nat) : Int) - 1 = d by omega] at this
  unfold unt; omega
end KM
namespace Go.Proofs.Ythahfcehfagepaa
open Go.RowKit
set_option linter.unusedVariables false

set_option maxHeartbeats 1000000 in
theorem until_any (A : Option Addr) (zs : List Int) (cap : Nat) (d : Int) (w : World) (hI : Ints w A zs) (hok : KM.okFrom (-1) zs = 0) (hl : zs.length ≤ 1024) (h0 : -1 ≤ d) (h1 : d ≤ 73048) :
    Calls Try.prog 66 #[.slice A zs.length cap, .int .i64 d] w fun e w' => e = .returned (.int .i64 (KM.unt (KM.works zs) d : Nat)) ∧ w = w' := by
  have hend := KM.unt_end hok h0
  generalize hr : ((KM.unt (KM.works zs) d : Nat) : Int) = r at *
  clear hr
  have HE := Lib.hid hend; have HOK := Lib.hid (KM.okFrom_ok hok)
  have HWK := Lib.hid (KM.cnt_week ((d + 1) / 7).toNat)
  have q0 : 0 ≤ (d + 1) / 7 := by omega
  have q1 : (d + 1) / 7 ≤ 10436 := by omega
  have q2 : (d + 1) / 7 * 7 ≤ d + 1 := by omega
  have q3 : 0 ≤ (d + 1) / 7 * 7 := by omega
  clear hend hok
  go_enter Try.func66, Try.ntmps66
  go_wp2
  go_loop [4, 6] (fun a b => ∃ k : Nat, ∃ n : Int, (k : Int) ≤ d + 1 ∧ b = .int .i64 (k : Int) ∧ a = .int .i64 n ∧ 0 ≤ n ∧ n ≤ (k : Int) ∧ Hid (n = (KM.cnt KM.wk 0 k : Nat))) (fun _ b => (d + 1 - intOf b).toNat)
  case atStart => exact ⟨((d + 1) / 7 * 7).toNat, (d + 1) / 7 * 5, by omega, by congr 1; omega, rfl, by omega, by omega, Lib.hid (by
    rw [show ((d + 1) / 7 * 7).toNat = 7 * ((d + 1) / 7).toNat by omega, HWK.out]; omega)⟩
  case round =>
    obtain ⟨k, n, hk, rfl, rfl, n0, n1, HN⟩ := hrel
    by_cases hlt : (k : Int) ≤ d
    · have hst := KM.cnt_succ KM.wk k
      have C := fun ww => inWeek_any (k : Int) ww (by omega) (by omega)
      have HC := Lib.hid C
      clear C
      cases hw : KM.wk (k : Int)
      · have HN2 : Hid (n = (KM.cnt KM.wk 0 (k + 1) : Nat)) := Lib.hid (by rw [hst, hw, HN.out]; simp)
        clear hst
        go_wp2_with (go_at_call 60; refine (HC.out _).mono ?_; rintro e w' ⟨rfl, rfl⟩)
        go_round
        case rel => exact ⟨k + 1, n, by omega, by go_num, rfl, n0, by omega, HN2⟩
        case measure => simp [intOf]; omega
      · have HN2 : Hid (n + 1 = (KM.cnt KM.wk 0 (k + 1) : Nat)) := Lib.hid (by rw [hst, hw, HN.out]; simp)
        clear hst
        go_wp2_with (go_at_call 60; refine (HC.out _).mono ?_; rintro e w' ⟨rfl, rfl⟩)
        go_round
        case rel => exact ⟨k + 1, n + 1, by omega, by go_num, rfl, by omega, by omega, HN2⟩
        case measure => simp [intOf]; omega
    · have HN2 : Hid (n = (KM.cnt KM.wk 0 (d + 1).toNat : Nat)) := Lib.hid (by rw [HN.out, show k = (d + 1).toNat by omega])
      have n2 : n ≤ 73049 := by omega
      go_wp2
      go_loop [4, 27] (fun a b => ∃ j : Nat, ∃ x : Int, j ≤ zs.length ∧ b = .int .i64 (j : Int) ∧ a = .int .i64 x ∧ -(j : Int) ≤ x ∧ x ≤ 73049 ∧ Hid (x = n - (KM.hc d (zs.take j) : Nat))) (fun _ b => (zs.length - intOf b).toNat)
      case atStart => exact ⟨0, n, Nat.zero_le _, rfl, rfl, by omega, by omega, Lib.hid (by simp [KM.hc])⟩
      case round =>
        obtain ⟨j, x, hj, rfl, rfl, x0, x1, HX⟩ := hrel
        by_cases hlt2 : j < zs.length
        · obtain ⟨b, off, v, rfl, hb, hcell, HV, v1, v2⟩ := hI.get hlt2
          have HI := Lib.hid hI
          have hst := KM.hc_step (d := d) hlt2 HV.out
          have hv := HOK.out v (by rw [← HV.out]; exact LM.getD_mem zs j hlt2)
          have HC := Lib.hid (fun ww => inWeek_any v ww hv.1 hv.2.1)
          clear hI
          by_cases hvd : v ≤ d
          · cases hw : KM.wk v
            · have HN3 : Hid (x = n - (KM.hc d (zs.take (j + 1)) : Nat)) := Lib.hid (by rw [hst, hw, HX.out]; simp)
              clear hst hv
              go_wp2_with (go_at_call 60; refine (HC.out _).mono ?_; rintro e w' ⟨rfl, rfl⟩)
              go_round
              case rel => exact ⟨j + 1, x, by omega, by go_num, rfl, by omega, by omega, HN3⟩
              case measure => simp [intOf]; omega
            · have HN3 : Hid (x - 1 = n - (KM.hc d (zs.take (j + 1)) : Nat)) := Lib.hid (by rw [hst, hw, HX.out, if_pos ⟨hvd, rfl⟩]; omega)
              clear hst hv
              go_wp2_with (go_at_call 60; refine (HC.out _).mono ?_; rintro e w' ⟨rfl, rfl⟩)
              go_round
              case rel => exact ⟨j + 1, x - 1, by omega, by go_num, rfl, by omega, by omega, HN3⟩
              case measure => simp [intOf]; omega
          · have HN3 : Hid (x = n - (KM.hc d (zs.take (j + 1)) : Nat)) := Lib.hid (by rw [hst, HX.out, if_neg (fun g => hvd g.1)]; omega)
            clear hst hv
            go_wp2
            go_round
            case rel => exact ⟨j + 1, x, by omega, by go_num, rfl, by omega, by omega, HN3⟩
            case measure => simp [intOf]; omega
        · obtain rfl : j = zs.length := by omega
          have HQ : Hid (r = x) := Lib.hid (by rw [HE.out, HX.out, HN2.out, List.take_length])
          go_wp2
          go_ret
          exact ⟨by rw [HQ.out]; rfl, rfl⟩
end Go.Proofs.Ythahfcehfagepaa
