import Derived.Test.YtgpdkidbmfngmaaOwn
import Derived.Test.YtgpdkidbmfngmaaShareMath
import Derived.Laws.BitsAllLaws
import Derived.Laws.BitsLemmas
namespace Go.Proofs.Ytgpdkidbmfngmaa
open Go.RowKit

theorem inrange_any (n : Int) (w : World) : Calls Try.prog 52 #[.int .i64 n] w fun e w' => e = .returned (.bool (SM.inR n)) ∧ w = w' := by
  by_cases h1 : 0 ≤ n
  · by_cases h2 : n ≤ 1152921504606846976
    · have h : SM.inR n = true := SM.inR_true.2 ⟨h1, h2⟩
      rw [h]; clear h
      go_enter Try.func52, Try.ntmps52
      go_wp2
      go_ret
      exact ⟨rfl, rfl⟩
    · have h : SM.inR n = false := SM.inR_false.2 (by omega)
      rw [h]; clear h
      go_enter Try.func52, Try.ntmps52
      go_wp2
      go_ret
      exact ⟨rfl, rfl⟩
  · have h : SM.inR n = false := SM.inR_false.2 (by omega)
    rw [h]; clear h
    go_enter Try.func52, Try.ntmps52
    go_wp2
    go_ret
    exact ⟨rfl, rfl⟩

theorem money_any (n : Int) (w : World) : Calls Try.prog 55 #[.int .i64 n] w fun e w' => e = .returned (.bool (SM.inR n)) ∧ w = w' := by
  by_cases h1 : 0 ≤ n
  · by_cases h2 : n ≤ 1152921504606846976
    · have h : SM.inR n = true := SM.inR_true.2 ⟨h1, h2⟩
      rw [h]; clear h
      go_enter Try.func55, Try.ntmps55
      go_wp2
      go_ret
      exact ⟨rfl, rfl⟩
    · have h : SM.inR n = false := SM.inR_false.2 (by omega)
      rw [h]; clear h
      go_enter Try.func55, Try.ntmps55
      go_wp2
      go_ret
      exact ⟨rfl, rfl⟩
  · have h : SM.inR n = false := SM.inR_false.2 (by omega)
    rw [h]; clear h
    go_enter Try.func55, Try.ntmps55
    go_wp2
    go_ret
    exact ⟨rfl, rfl⟩

set_option maxHeartbeats 400000 in
theorem allinrange_any (A : Option Addr) (zs : List Int) (cap : Nat) (w : World) (hI : Ints w A zs) :
    Calls Try.prog 57 #[.slice A zs.length cap] w fun e w' => e = .returned (.bool (SM.allR zs)) ∧ w = w' := by
  have hlen := hI.len
  go_enter Try.func57, Try.ntmps57
  go_wp2
  go_loop [7] (fun i => ∃ k : Nat, k ≤ zs.length ∧ i = .int .i64 k ∧ Hid (SM.allR (zs.take k) = true)) (fun i => zs.length - (intOf i).toNat)
  case atStart => exact ⟨0, by omega, rfl, rfl⟩
  case round =>
    obtain ⟨k, hk, rfl, HA⟩ := hrel
    by_cases hlt : k < zs.length
    · obtain ⟨b, off, v, rfl, hb, hcell, HV, v1, v2⟩ := hI.get hlt
      have HI := Lib.hid hI
      clear hI
      cases hf : SM.inR v
      · have HE := Lib.hid (SM.allR_no hlt (by rw [HV.out]; exact hf))
        go_wp2_with (go_at_call 52; refine (inrange_any _ _).mono ?_; rintro e w' ⟨rfl, rfl⟩)
        go_ret
        exact ⟨by rw [HE.out]; rfl, rfl⟩
      · have HN : Hid (SM.allR (zs.take (k + 1)) = true) := by rw [SM.allR_take_succ zs k hlt, HA.out, HV.out, hf]; exact rfl
        go_wp2_with (go_at_call 52; refine (inrange_any _ _).mono ?_; rintro e w' ⟨rfl, rfl⟩)
        go_round
        case rel => exact ⟨k + 1, by omega, by go_num, HN⟩
        case measure => simp [intOf]; omega
    · obtain rfl : k = zs.length := by omega
      rw [List.take_length] at HA
      go_wp2
      go_ret
      exact ⟨by rw [HA.out]; rfl, rfl⟩

/-- the error of Fill and Back -/
def rowE (total : Int) (l : List Int) : Int := if SM.inR total && SM.allR l then (if 1024 < l.length then 8 else 0) else 2

theorem checkrow_any (total : Int) (A : Option Addr) (zs : List Int) (cap : Nat) (w : World) (hI : Ints w A zs) :
    Calls Try.prog 61 #[.int .i64 total, .slice A zs.length cap] w fun e w' => e = .returned (.int .i64 (rowE total zs)) ∧ w = w' := by
  have hlen := hI.len
  cases h1 : SM.inR total
  · have he : rowE total zs = 2 := by simp [rowE, h1]
    rw [he]; clear he
    go_enter Try.func61, Try.ntmps61
    go_wp2_with (go_at_call 52; refine (inrange_any _ _).mono ?_; rintro e w' ⟨rfl, rfl⟩)
    go_ret
    exact ⟨rfl, rfl⟩
  · cases h2 : SM.allR zs
    · have he : rowE total zs = 2 := by simp [rowE, h2]
      rw [he]; clear he
      go_enter Try.func61, Try.ntmps61
      go_wp2_with (first
        | (go_at_call 52; refine (inrange_any _ _).mono ?_; rintro e w' ⟨rfl, rfl⟩)
        | (go_at_call 57; refine (allinrange_any _ _ _ _ hI).mono ?_; rintro e w' ⟨rfl, rfl⟩))
      go_ret
      exact ⟨rfl, rfl⟩
    · by_cases h3 : 1024 < zs.length
      · have he : rowE total zs = 8 := by simp [rowE, h1, h2, h3]
        rw [he]; clear he
        go_enter Try.func61, Try.ntmps61
        go_wp2_with (first
          | (go_at_call 52; refine (inrange_any _ _).mono ?_; rintro e w' ⟨rfl, rfl⟩)
          | (go_at_call 57; refine (allinrange_any _ _ _ _ hI).mono ?_; rintro e w' ⟨rfl, rfl⟩))
        go_ret
        exact ⟨rfl, rfl⟩
      · have he : rowE total zs = 0 := by simp [rowE, h1, h2, h3]
        rw [he]; clear he
        go_enter Try.func61, Try.ntmps61
        go_wp2_with (first
          | (go_at_call 52; refine (inrange_any _ _).mono ?_; rintro e w' ⟨rfl, rfl⟩)
          | (go_at_call 57; refine (allinrange_any _ _ _ _ hI).mono ?_; rintro e w' ⟨rfl, rfl⟩))
        go_ret
        exact ⟨rfl, rfl⟩

set_option maxHeartbeats 1000000 in
theorem sumof_any (A : Option Addr) (zs : List Int) (cap : Nat) (w : World) (hI : Ints w A zs) :
    Calls Try.prog 53 #[.slice A zs.length cap] w fun e w' => e = .returned (.tuple #[.int .i64 (SM.sN zs), .int .i64 (SM.sE zs)]) ∧ w = w' := by
  have hlen := hI.len
  by_cases hlong : 1024 < zs.length
  · have e1 : SM.sN zs = 0 := by simp [SM.sN, hlong]
    have e2 : SM.sE zs = 8 := by simp [SM.sE, hlong]
    rw [e1, e2]; clear e1 e2
    go_enter Try.func53, Try.ntmps53
    go_wp2
    go_ret2
    exact ⟨rfl, rfl⟩
  · have e1 : SM.sN zs = SM.wN zs := by simp [SM.sN, hlong]
    have e2 : SM.sE zs = SM.wE zs := by simp [SM.sE, hlong]
    rw [e1, e2]; clear e1 e2
    go_enter Try.func53, Try.ntmps53
    go_wp2
    go_loop [2, 11] (fun s i => ∃ k : Nat, ∃ x : Int, k ≤ zs.length ∧ i = .int .i64 k ∧ s = .int .i64 x ∧ SM.WInv zs k x) (fun _ i => zs.length - (intOf i).toNat)
    case atStart => exact ⟨0, 0, by omega, rfl, rfl, SM.WInv.start zs⟩
    case round =>
      obtain ⟨k, x, hk, rfl, rfl, hS⟩ := hrel
      obtain ⟨x1, x2⟩ := hS.bounds
      by_cases hlt : k < zs.length
      · obtain ⟨b, off, v, rfl, hb, hcell, HV, v1, v2⟩ := hI.get hlt
        have HI := Lib.hid hI
        clear hI
        cases hf : SM.inR v
        · have HE := Lib.hid (SM.w_no (SM.wOk_no hlt (by rw [HV.out]; exact hf)))
          go_wp2_with (go_at_call 52; refine (inrange_any _ _).mono ?_; rintro e w' ⟨rfl, rfl⟩)
          go_ret2
          exact ⟨by rw [HE.out.1, HE.out.2]; rfl, rfl⟩
        · obtain ⟨g1, g2⟩ := SM.inR_true.1 hf
          by_cases hs : 1152921504606846976 - x < v
          · have HE := Lib.hid (SM.w_no (hS.over hlt HV.out hs))
            go_wp2_with (go_at_call 52; refine (inrange_any _ _).mono ?_; rintro e w' ⟨rfl, rfl⟩)
            go_ret2
            exact ⟨by rw [HE.out.1, HE.out.2]; rfl, rfl⟩
          · have HN := Lib.hid (hS.step hlt HV.out hf (by omega))
            go_wp2_with (go_at_call 52; refine (inrange_any _ _).mono ?_; rintro e w' ⟨rfl, rfl⟩)
            go_round
            case rel => exact ⟨k + 1, _, by omega, by go_num, rfl, HN.out⟩
            case measure => simp [intOf]; omega
      · obtain rfl : k = zs.length := by omega
        obtain ⟨d1, d2⟩ := hS.done
        have HE := Lib.hid (SM.w_yes d1)
        have D2 := Lib.hid d2
        clear d1 d2
        go_wp2
        go_ret2
        exact ⟨by rw [HE.out.1, HE.out.2, ← D2.out]; rfl, rfl⟩

set_option maxHeartbeats 1000000 in
theorem rweights_any (A : Option Addr) (zs : List Int) (cap : Nat) (w : World) (hI : Ints w A zs) :
    Calls Try.prog 56 #[.slice A zs.length cap] w fun e w' => e = .returned (.tuple #[.int .i64 (SM.wN zs), .int .i64 (SM.wE zs)]) ∧ w = w' := by
  have hlen := hI.len
  go_enter Try.func56, Try.ntmps56
  go_wp2
  go_loop [5] (fun i => ∃ k : Nat, k ≤ zs.length ∧ i = .int .i64 k ∧ Hid (SM.allR (zs.take k) = true)) (fun i => zs.length - (intOf i).toNat)
  case atStart => exact ⟨0, by omega, rfl, rfl⟩
  case round =>
    obtain ⟨k, hk, rfl, HA⟩ := hrel
    by_cases hlt : k < zs.length
    · obtain ⟨b, off, v, rfl, hb, hcell, HV, v1, v2⟩ := hI.get hlt
      have HI := Lib.hid hI
      clear hI
      cases hf : SM.inR v
      · have HE := Lib.hid (SM.w_no (SM.wOk_no hlt (by rw [HV.out]; exact hf)))
        go_wp2_with (go_at_call 55; refine (money_any _ _).mono ?_; rintro e w' ⟨rfl, rfl⟩)
        go_ret2
        exact ⟨by rw [HE.out.1, HE.out.2]; rfl, rfl⟩
      · have HN : Hid (SM.allR (zs.take (k + 1)) = true) := by rw [SM.allR_take_succ zs k hlt, HA.out, HV.out, hf]; exact rfl
        go_wp2_with (go_at_call 55; refine (money_any _ _).mono ?_; rintro e w' ⟨rfl, rfl⟩)
        go_round
        case rel => exact ⟨k + 1, by omega, by go_num, HN⟩
        case measure => simp [intOf]; omega
    · obtain rfl : k = zs.length := by omega
      rw [List.take_length] at HA
      go_wp2
      go_loop [4, 6] (fun s i => ∃ k : Nat, ∃ x : Int, k ≤ zs.length ∧ i = .int .i64 k ∧ s = .int .i64 x ∧ SM.WInv zs k x) (fun _ i => zs.length - (intOf i).toNat)
      case atStart => exact ⟨0, 0, by omega, rfl, rfl, SM.WInv.start zs⟩
      case round =>
        obtain ⟨k, x, hk, rfl, rfl, hS⟩ := hrel
        obtain ⟨x1, x2⟩ := hS.bounds
        by_cases hlt : k < zs.length
        · obtain ⟨b, off, v, rfl, hb, hcell, HV, v1, v2⟩ := hI.get hlt
          have HI := Lib.hid hI
          clear hI
          have hf : SM.inR v = true := by
            rw [← HV.out]; exact SM.inR_true.2 (SM.allR_get HA.out hlt)
          obtain ⟨g1, g2⟩ := SM.inR_true.1 hf
          by_cases hs : 1152921504606846976 - x < v
          · have HE := Lib.hid (SM.w_no (hS.over hlt HV.out hs))
            go_wp2
            go_ret2
            exact ⟨by rw [HE.out.1, HE.out.2]; rfl, rfl⟩
          · have HN := Lib.hid (hS.step hlt HV.out hf (by omega))
            go_wp2
            go_round
            case rel => exact ⟨k + 1, _, by omega, by go_num, rfl, HN.out⟩
            case measure => simp [intOf]; omega
        · obtain rfl : k = zs.length := by omega
          obtain ⟨d1, d2⟩ := hS.done
          have HE := Lib.hid (SM.w_yes d1)
          have D2 := Lib.hid d2
          clear d1 d2
          go_wp2
          go_ret2
          exact ⟨by rw [HE.out.1, HE.out.2, ← D2.out]; rfl, rfl⟩
end Go.Proofs.Ytgpdkidbmfngmaa
