/- Contracts of layer 6: Check, Works, the program's and the reference's. -/
import Derived.Test.YthahfcehfagepaaWorkA
namespace Go.Proofs.Ythahfcehfagepaa
open Go.RowKit
set_option linter.unusedVariables false

/-- what stands ahead of place k -/
def prev (zs : List Int) (k : Nat) : Int := if k = 0 then -1 else zs.getD (k - 1) 0
theorem prev_succ (zs : List Int) (k : Nat) : prev zs (k + 1) = zs.getD k 0 := rfl
theorem ok_step {zs : List Int} {k : Nat} {v p : Int} (hk : k < zs.length) (hv : zs.getD k 0 = v) :
    KM.okFrom p (zs.drop k) = if v < 0 ∨ 73048 < v then 15 else if v ≤ p then 2 else KM.okFrom v (zs.drop (k + 1)) := by
  have e : zs.getD k 0 = zs[k] := by simp [List.getD, List.getElem?_eq_getElem hk]
  rw [List.drop_eq_getElem_cons hk, ← e, hv]
  rfl
theorem ok_day {zs : List Int} {k : Nat} {v p : Int} (hk : k < zs.length) (hv : zs.getD k 0 = v) (h : v < 0 ∨ 73048 < v) : KM.okFrom p (zs.drop k) = 15 := by
  rw [ok_step hk hv, if_pos h]
theorem ok_arg {zs : List Int} {k : Nat} {v p : Int} (hk : k < zs.length) (hv : zs.getD k 0 = v) (h0 : 0 ≤ v) (h1 : v ≤ 73048) (h : v ≤ p) : KM.okFrom p (zs.drop k) = 2 := by
  rw [ok_step hk hv, if_neg (by omega), if_pos h]
theorem ok_go {zs : List Int} {k : Nat} {v p : Int} (hk : k < zs.length) (hv : zs.getD k 0 = v) (h0 : 0 ≤ v) (h1 : v ≤ 73048) (h : p < v) : KM.okFrom p (zs.drop k) = KM.okFrom v (zs.drop (k + 1)) := by
  rw [ok_step hk hv, if_neg (by omega), if_neg (by omega)]

theorem Ints.two {w : World} {b off : Nat} {zs : List Int} (h : Ints w (some ⟨b, off, none⟩) zs) {k : Nat} (hk : k < zs.length) :
    ∃ v, w.cell? ⟨b, off + k, none⟩ = some (.int .i64 v) ∧ Hid (zs.getD k 0 = v) ∧ -9223372036854775808 ≤ v ∧ v ≤ 9223372036854775807 := by
  obtain ⟨b', off', v, e, _, hc, HV, r1, r2⟩ := h.get hk
  injection e with e
  injection e with e1 e2
  subst e1 e2
  exact ⟨v, hc, HV, r1, r2⟩

set_option maxHeartbeats 1000000 in
theorem check_any (A : Option Addr) (zs : List Int) (cap : Nat) (w : World) (hI : Ints w A zs) :
    Calls Try.prog 43 #[.slice A zs.length cap] w fun e w' => e = .returned (.int .i64 (KM.checkE zs)) ∧ w = w' := by
  have hlen := hI.len
  generalize hr : KM.checkE zs = r
  unfold KM.checkE at hr
  by_cases hl : 1024 < zs.length
  · rw [if_pos hl] at hr
    subst hr
    go_enter Try.func43, Try.ntmps43
    go_wp2
    go_ret
    exact ⟨rfl, rfl⟩
  · rw [if_neg hl] at hr
    have HR := Lib.hid hr
    clear hr
    go_enter Try.func43, Try.ntmps43
    go_wp2
    go_loop [10] (fun i => ∃ k : Nat, k ≤ zs.length ∧ i = .int .i64 k ∧ Hid (KM.okFrom (prev zs k) (zs.drop k) = r)) (fun i => zs.length - (intOf i).toNat)
    case atStart => exact ⟨0, Nat.zero_le _, rfl, HR⟩
    case round =>
      obtain ⟨k, hk, rfl, HK⟩ := hrel
      by_cases hlt : k < zs.length
      · obtain ⟨b, off, v, rfl, hb, hcell, HV, v1, v2⟩ := hI.get hlt
        cases hd : DM.isd v
        · have HN : Hid (r = 15) := Lib.hid (by rw [← HK.out]; exact ok_day hlt HV.out (DM.isd_no hd))
          have HI := Lib.hid hI
          clear hI
          go_wp2_with (go_at_call 64; refine (isDay6_any _ _).mono ?_; rintro e w' ⟨rfl, rfl⟩)
          go_ret
          exact ⟨by rw [HN.out]; rfl, rfl⟩
        · obtain ⟨g0, g1⟩ := DM.isd_of hd
          cases k with
          | zero =>
            rw [Nat.add_zero] at hcell
            have HN : Hid (KM.okFrom (prev zs 1) (zs.drop 1) = r) := Lib.hid (by
              rw [← HK.out, prev_succ, HV.out]
              exact (ok_go hlt HV.out g0 g1 (show (-1 : Int) < v by omega)).symm)
            have HI := Lib.hid hI
            clear hI
            go_wp2_with (go_at_call 64; refine (isDay6_any _ _).mono ?_; rintro e w' ⟨rfl, rfl⟩)
            go_round
            case rel => exact ⟨1, by omega, by go_num, HN⟩
            case measure => simp [intOf]; omega
          | succ j =>
            obtain ⟨u, hcell2, HU, u1, u2⟩ := hI.two (k := j) (by omega)
            have HP : Hid (prev zs (j + 1) = u) := Lib.hid (by rw [prev_succ]; exact HU.out)
            have HI := Lib.hid hI
            clear hI
            by_cases hle : v ≤ u
            · have HN : Hid (r = 2) := Lib.hid (by rw [← HK.out, HP.out]; exact ok_arg hlt HV.out g0 g1 hle)
              go_wp2_with (go_at_call 64; refine (isDay6_any _ _).mono ?_; rintro e w' ⟨rfl, rfl⟩)
              go_ret
              exact ⟨by rw [HN.out]; rfl, rfl⟩
            · have HN : Hid (KM.okFrom (prev zs (j + 1 + 1)) (zs.drop (j + 1 + 1)) = r) := Lib.hid (by
                rw [← HK.out, prev_succ, HV.out, HP.out]
                exact (ok_go hlt HV.out g0 g1 (by omega)).symm)
              go_wp2_with (go_at_call 64; refine (isDay6_any _ _).mono ?_; rintro e w' ⟨rfl, rfl⟩)
              go_round
              case rel => exact ⟨j + 1 + 1, by omega, by go_num, HN⟩
              case measure => simp [intOf]; omega
      · obtain rfl : k = zs.length := by omega
        have HN : Hid (r = 0) := Lib.hid (by rw [← HK.out, List.drop_length]; rfl)
        go_wp2
        go_ret
        exact ⟨by rw [HN.out]; rfl, rfl⟩

set_option maxHeartbeats 1000000 in
theorem rcheck_any (A : Option Addr) (zs : List Int) (cap : Nat) (w : World) (hI : Ints w A zs) :
    Calls Try.prog 44 #[.slice A zs.length cap] w fun e w' => e = .returned (.int .i64 (KM.checkE zs)) ∧ ∃ n, w' = w.drewN n := by
  have hlen := hI.len
  generalize hr : KM.checkE zs = r
  unfold KM.checkE at hr
  by_cases hl : 1024 < zs.length
  · rw [if_pos hl] at hr
    subst hr
    go_enter Try.func44, Try.ntmps44
    go_wp2
    go_ret
    exact ⟨rfl, 0, rfl⟩
  · rw [if_neg hl] at hr
    have HR := Lib.hid hr
    clear hr
    go_enter Try.func44, Try.ntmps44
    go_wp2
    go_loopw [3] (fun i wr => ∃ k n : Nat, k ≤ zs.length ∧ i = .int .i64 k ∧ wr = w.drewN n ∧ Hid (KM.okFrom (prev zs k) (zs.drop k) = r)) (fun i _ => zs.length - (intOf i).toNat)
    case atStart => exact ⟨0, 0, Nat.zero_le _, rfl, rfl, HR⟩
    case round =>
      obtain ⟨k, n, hk, rfl, rfl, HK⟩ := hrel
      by_cases hlt : k < zs.length
      · obtain ⟨b, off, v, rfl, hb, hcell, HV, v1, v2⟩ := hI.get hlt
        by_cases g0 : 0 ≤ v
        · by_cases g1 : v ≤ 73048
          · cases k with
            | zero =>
              rw [Nat.add_zero] at hcell
              have HN : Hid (KM.okFrom (prev zs 1) (zs.drop 1) = r) := Lib.hid (by
                rw [← HK.out, prev_succ, HV.out]
                exact (ok_go hlt HV.out g0 g1 (show (-1 : Int) < v by omega)).symm)
              have HI := Lib.hid hI
              clear hI
              go_wp2
              go_quiet (fail)
              go_wp2
              go_roundw
              case rel => exact ⟨1, _, by omega, by go_num, rfl, HN⟩
              case measure => simp [intOf]; omega
            | succ j =>
              obtain ⟨u, hcell2, HU, u1, u2⟩ := hI.two (k := j) (by omega)
              have HP : Hid (prev zs (j + 1) = u) := Lib.hid (by rw [prev_succ]; exact HU.out)
              have HI := Lib.hid hI
              clear hI
              have hj : decide (0 < (j : Int) + 1) = true := decide_eq_true (by omega)
              by_cases hle : v ≤ u
              · have HN : Hid (r = 2) := Lib.hid (by rw [← HK.out, HP.out]; exact ok_arg hlt HV.out g0 g1 hle)
                go_wp2
                go_quiet (fail)
                go_wp2
                go_ret
                exact ⟨by rw [HN.out]; rfl, _, World.drewN_drewN _ _ _⟩
              · have HN : Hid (KM.okFrom (prev zs (j + 1 + 1)) (zs.drop (j + 1 + 1)) = r) := Lib.hid (by
                  rw [← HK.out, prev_succ, HV.out, HP.out]
                  exact (ok_go hlt HV.out g0 g1 (by omega)).symm)
                have hle2 : decide (v ≤ u) = false := decide_eq_false hle
                go_wp2
                go_quiet (fail)
                go_wp2
                go_roundw
                case rel => exact ⟨j + 1 + 1, _, by omega, by go_num, rfl, HN⟩
                case measure => simp [intOf]; omega
          · have HN : Hid (r = 15) := Lib.hid (by rw [← HK.out]; exact ok_day hlt HV.out (by omega))
            have HI := Lib.hid hI
            clear hI
            go_wp2
            go_ret
            exact ⟨by rw [HN.out]; rfl, _, rfl⟩
        · have HN : Hid (r = 15) := Lib.hid (by rw [← HK.out]; exact ok_day hlt HV.out (by omega))
          have HI := Lib.hid hI
          clear hI
          go_wp2
          go_ret
          exact ⟨by rw [HN.out]; rfl, _, rfl⟩
      · obtain rfl : k = zs.length := by omega
        have HN : Hid (r = 0) := Lib.hid (by rw [← HK.out, List.drop_length]; rfl)
        go_wp2
        go_ret
        exact ⟨by rw [HN.out]; rfl, _, rfl⟩
end Go.Proofs.Ythahfcehfagepaa
