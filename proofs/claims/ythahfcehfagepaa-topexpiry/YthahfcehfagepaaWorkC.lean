/- Contracts of layer 6: a day that works. -/
import Derived.Test.YthahfcehfagepaaWorkB
namespace KM
/-- the error of the list, or of the day -/
def cdE (zs : List Int) (d : Int) : Int := if checkE zs = 0 then (if DM.isd d = true then 0 else 15) else checkE zs
theorem cdE_bad {zs : List Int} {d : Int} (h : checkE zs ≠ 0) : cdE zs d = checkE zs := by unfold cdE; rw [if_neg h]
theorem cdE_no {zs : List Int} {d : Int} (h : checkE zs = 0) (hd : DM.isd d = false) : cdE zs d = 15 := by unfold cdE; rw [if_pos h, hd]; rfl
theorem cdE_ok {zs : List Int} {d : Int} (h : checkE zs = 0) (hd : DM.isd d = true) : cdE zs d = 0 := by unfold cdE; rw [if_pos h, hd]; rfl
theorem cdE_zero {zs : List Int} {d : Int} (h : cdE zs d = 0) : checkE zs = 0 ∧ DM.isd d = true := by
  by_cases h1 : checkE zs = 0
  · cases hd : DM.isd d with
    | true => exact ⟨h1, rfl⟩
    | false => rw [cdE_no h1 hd] at h; omega
  · rw [cdE_bad h1] at h; exact absurd h h1
def wkN (zs : List Int) (d : Int) : Bool := if cdE zs d = 0 then works zs d else false
theorem wkN_ok {zs : List Int} {d : Int} (h : cdE zs d = 0) : wkN zs d = works zs d := by unfold wkN; rw [if_pos h]
theorem wkN_no {zs : List Int} {d : Int} (h : cdE zs d ≠ 0) : wkN zs d = false := by unfold wkN; rw [if_neg h]
theorem check_ok {zs : List Int} (h : checkE zs = 0) : okFrom (-1) zs = 0 ∧ zs.length ≤ 1024 := by
  unfold checkE at h
  by_cases hl : 1024 < zs.length
  · rw [if_pos hl] at h; omega
  · rw [if_neg hl] at h; exact ⟨h, by omega⟩
end KM
namespace Go.Proofs.Ythahfcehfagepaa
open Go.RowKit
set_option linter.unusedVariables false

theorem bne0 {x : Int} (h : x ≠ 0) : (x != 0) = true := by simpa using h

theorem checkDay_any (A : Option Addr) (zs : List Int) (cap : Nat) (d : Int) (w : World) (hI : Ints w A zs) :
    Calls Try.prog 59 #[.slice A zs.length cap, .int .i64 d] w fun e w' => e = .returned (.int .i64 (KM.cdE zs d)) ∧ w = w' := by
  have C := check_any A zs cap w hI
  clear hI
  by_cases hc : KM.checkE zs = 0
  · rw [hc] at C
    have HC := Lib.hid C
    clear C
    cases hd : DM.isd d
    · rw [KM.cdE_no hc hd]
      clear hc
      go_enter Try.func59, Try.ntmps59
      go_wp2_with (first
        | (go_at_call 43; refine HC.out.mono ?_; rintro e w' ⟨rfl, rfl⟩)
        | (go_at_call 64; refine (isDay6_any _ _).mono ?_; rintro e w' ⟨rfl, rfl⟩))
      go_ret
      exact ⟨rfl, rfl⟩
    · rw [KM.cdE_ok hc hd]
      clear hc
      go_enter Try.func59, Try.ntmps59
      go_wp2_with (first
        | (go_at_call 43; refine HC.out.mono ?_; rintro e w' ⟨rfl, rfl⟩)
        | (go_at_call 64; refine (isDay6_any _ _).mono ?_; rintro e w' ⟨rfl, rfl⟩))
      go_ret
      exact ⟨rfl, rfl⟩
  · rw [KM.cdE_bad hc]
    generalize KM.checkE zs = r at *
    have HC := Lib.hid C
    have hb := bne0 hc
    clear C hc
    go_enter Try.func59, Try.ntmps59
    go_wp2_with (go_at_call 43; refine HC.out.mono ?_; rintro e w' ⟨rfl, rfl⟩)
    go_ret
    exact ⟨rfl, rfl⟩

theorem works_any (A : Option Addr) (zs : List Int) (cap : Nat) (d : Int) (w : World) (hI : Ints w A zs) :
    Calls Try.prog 35 #[.slice A zs.length cap, .int .i64 d] w fun e w' => e = .returned (.tuple #[.bool (KM.wkN zs d), .int .i64 (KM.cdE zs d)]) ∧ w = w' := by
  have C := checkDay_any A zs cap d w hI
  have CC := contains_any A zs cap d w hI
  clear hI
  by_cases hc : KM.cdE zs d = 0
  · rw [hc] at C
    obtain ⟨h1, h2⟩ := DM.isd_of (KM.cdE_zero hc).2
    have CW := fun ww => inWeek_any d ww h1 h2
    have hw : KM.wkN zs d = (!zs.contains d && KM.wk d) := by rw [KM.wkN_ok hc, KM.works_wk zs h1]
    rw [hw, hc]
    generalize zs.contains d = b at *
    generalize KM.wk d = v at *
    have HC := Lib.hid C; have HCC := Lib.hid CC; have HCW := Lib.hid CW
    clear C CC CW hw hc
    cases v
    · rw [Bool.and_false]
      go_enter Try.func35, Try.ntmps35
      go_wp2_with (first
        | (go_at_call 59; refine HC.out.mono ?_; rintro e w' ⟨rfl, rfl⟩)
        | (go_at_call 60; refine (HCW.out _).mono ?_; rintro e w' ⟨rfl, rfl⟩))
      go_ret2
      exact ⟨rfl, rfl⟩
    · rw [Bool.and_true]
      go_enter Try.func35, Try.ntmps35
      go_wp2_with (first
        | (go_at_call 59; refine HC.out.mono ?_; rintro e w' ⟨rfl, rfl⟩)
        | (go_at_call 60; refine (HCW.out _).mono ?_; rintro e w' ⟨rfl, rfl⟩)
        | (go_at_call 61; refine HCC.out.mono ?_; rintro e w' ⟨rfl, rfl⟩))
      go_ret2
      exact ⟨rfl, rfl⟩
  · rw [KM.wkN_no hc]
    generalize KM.cdE zs d = r at *
    have HC := Lib.hid C
    have hb := bne0 hc
    clear C CC hc
    go_enter Try.func35, Try.ntmps35
    go_wp2_with (go_at_call 59; refine HC.out.mono ?_; rintro e w' ⟨rfl, rfl⟩)
    go_ret2
    exact ⟨rfl, rfl⟩

/-! the reference's -/
set_option maxHeartbeats 1000000 in
theorem rw_any (A : Option Addr) (zs : List Int) (cap : Nat) (d : Int) (w : World) (hI : Ints w A zs) (h0 : 0 ≤ d) (h1 : d ≤ 73048) :
    Calls Try.prog 62 #[.slice A zs.length cap, .int .i64 d] w fun e w' => e = .returned (.bool (KM.works zs d)) ∧ w = w' := by
  have hlen := hI.len
  generalize hr : KM.works zs d = r
  rw [KM.works_wk zs h0] at hr
  have HR := Lib.hid hr
  clear hr
  go_enter Try.func62, Try.ntmps62
  go_wp2
  go_loop [5] (fun i => ∃ k : Nat, k ≤ zs.length ∧ i = .int .i64 k ∧ Hid ((zs.take k).contains d = false)) (fun i => zs.length - (intOf i).toNat)
  case atStart => exact ⟨0, Nat.zero_le _, rfl, Lib.hid rfl⟩
  case round =>
    obtain ⟨k, hk, rfl, HK⟩ := hrel
    by_cases hlt : k < zs.length
    · obtain ⟨b, off, v, rfl, hb, hcell, HV, v1, v2⟩ := hI.get hlt
      have HI := Lib.hid hI
      clear hI
      by_cases he : v = d
      · have HN : Hid (r = false) := Lib.hid (by rw [← HR.out, in_at hlt (by rw [HV.out]; exact he)]; rfl)
        have hq : (v == d) = true := beq_t he
        clear he
        go_wp2
        go_ret
        exact ⟨by rw [HN.out]; rfl, rfl⟩
      · have HN := Lib.hid (not_in_step hlt HK.out (by rw [HV.out]; exact he))
        have hq : (v == d) = false := beq_f he
        clear he
        go_wp2
        go_round
        case rel => exact ⟨k + 1, by omega, by go_num, HN⟩
        case measure => simp [intOf]; omega
    · obtain rfl : k = zs.length := by omega
      have HE := HK.out
      rw [List.take_length] at HE
      have HN : Hid (r = decide (1 < d % 7)) := Lib.hid (by rw [← HR.out, HE]; rfl)
      clear HE
      go_wp2
      all_goals
        go_ret
        exact ⟨by rw [HN.out]; first | rfl | simp_all, rfl⟩

theorem rworks_any (A : Option Addr) (zs : List Int) (cap : Nat) (d : Int) (w : World) (hI : Ints w A zs) :
    Calls Try.prog 36 #[.slice A zs.length cap, .int .i64 d] w fun e w' => e = .returned (.tuple #[.bool (KM.wkN zs d), .int .i64 (KM.cdE zs d)]) ∧ ∃ n, w' = w.drewN n := by
  have C := rcheck_any A zs cap w hI
  by_cases hc : KM.checkE zs = 0
  · rw [hc] at C
    cases hd : DM.isd d
    · rw [KM.wkN_no (by rw [KM.cdE_no hc hd]; decide), KM.cdE_no hc hd]
      have HC := Lib.hid C
      clear C hc
      rcases DM.isd_no hd with h | h
      · clear hd
        go_enter Try.func36, Try.ntmps36
        go_wp2_with (go_at_call 44; refine HC.out.mono ?_; rintro e w' ⟨rfl, n, rfl⟩)
        go_ret2
        exact ⟨rfl, _, rfl⟩
      · clear hd
        go_enter Try.func36, Try.ntmps36
        go_wp2_with (go_at_call 44; refine HC.out.mono ?_; rintro e w' ⟨rfl, n, rfl⟩)
        go_ret2
        exact ⟨rfl, _, rfl⟩
    · rw [KM.wkN_ok (KM.cdE_ok hc hd), KM.cdE_ok hc hd]
      obtain ⟨h1, h2⟩ := DM.isd_of hd
      have HC := Lib.hid C; have HI := Lib.hid hI
      clear C hc hd hI
      go_enter Try.func36, Try.ntmps36
      go_wp2_with (first
        | (go_at_call 44; refine HC.out.mono ?_; rintro e w' ⟨rfl, n, rfl⟩)
        | (go_at_call 62; refine (rw_any _ _ _ _ _ (HI.out.drewN _) h1 h2).mono ?_; rintro e w' ⟨rfl, rfl⟩))
      go_ret2
      exact ⟨rfl, _, rfl⟩
  · rw [KM.wkN_no (by rw [KM.cdE_bad hc]; exact hc), KM.cdE_bad hc]
    generalize KM.checkE zs = r at *
    have HC := Lib.hid C
    have hb := bne0 hc
    clear C hc
    go_enter Try.func36, Try.ntmps36
    go_wp2_with (go_at_call 44; refine HC.out.mono ?_; rintro e w' ⟨rfl, n, rfl⟩)
    go_ret2
    exact ⟨rfl, _, rfl⟩
end Go.Proofs.Ythahfcehfagepaa
