/- Contracts of layer 6: lists of holidays, a day that works. -/
import Derived.Test.YthahfcehfagepaaDateI
import Derived.Test.YthahfcehfagepaaWorkMath2
namespace Go.Proofs.Ythahfcehfagepaa
open Go.RowKit
set_option linter.unusedVariables false

theorem isDay6_any (d : Int) (w : World) :
    Calls Try.prog 64 #[.int .i64 d] w fun e w' => e = .returned (.bool (DM.isd d)) ∧ w = w' := by
  by_cases h1 : 0 ≤ d
  · by_cases h2 : d ≤ 73048
    · rw [DM.isd_true h1 h2]
      go_enter Try.func64, Try.ntmps64
      go_wp2
      go_ret
      exact ⟨rfl, rfl⟩
    · rw [DM.isd_false (by omega)]
      go_enter Try.func64, Try.ntmps64
      go_wp2
      go_ret
      exact ⟨rfl, rfl⟩
  · rw [DM.isd_false (by omega)]
    go_enter Try.func64, Try.ntmps64
    go_wp2
    go_ret
    exact ⟨rfl, rfl⟩

theorem inWeek_any (d : Int) (w : World) (h0 : 0 ≤ d) (h1 : d ≤ 73048) :
    Calls Try.prog 60 #[.int .i64 d] w fun e w' => e = .returned (.bool (KM.wk d)) ∧ w = w' := by
  have C := fun ww => weekday_any d ww
  rw [← KM.wk_weekday h0 h1]
  generalize DM.weekday d = k at *
  have HC := Lib.hid C
  clear C
  go_enter Try.func60, Try.ntmps60
  go_wp2_with (go_at_call 24; refine (HC.out _).mono ?_; rintro e w' ⟨rfl, rfl⟩)
  go_ret
  exact ⟨rfl, rfl⟩

/-! a list looked through -/
theorem not_in_step {zs : List Int} {k : Nat} {d : Int} (hk : k < zs.length) (h : (zs.take k).contains d = false) (hne : ¬ zs.getD k 0 = d) : (zs.take (k + 1)).contains d = false := by
  rw [List.take_succ_eq_append_getElem hk]
  have e : zs.getD k 0 = zs[k] := by simp [List.getD, List.getElem?_eq_getElem hk]
  rw [e] at hne
  simp only [List.contains_eq_mem, List.mem_append, List.mem_singleton, decide_eq_false_iff_not] at h ⊢
  rintro (g | g)
  · exact h g
  · exact hne g.symm
theorem in_at {zs : List Int} {k : Nat} {d : Int} (hk : k < zs.length) (he : zs.getD k 0 = d) : zs.contains d = true := by
  rw [← he]
  simpa using LM.getD_mem zs k hk

set_option maxHeartbeats 1000000 in
theorem index_any (A : Option Addr) (zs : List Int) (cap : Nat) (d : Int) (w : World) (hI : Ints w A zs) :
    Calls Try.prog 69 #[.slice A zs.length cap, .int .i64 d] w fun e w' => (∃ i : Int, e = .returned (.int .i64 i) ∧ decide (0 ≤ i) = zs.contains d) ∧ w = w' := by
  have hlen := hI.len
  generalize hr : zs.contains d = r
  have HR := Lib.hid hr
  clear hr
  go_enter Try.func69, Try.ntmps69
  go_wp2
  go_loop [8] (fun i => ∃ k : Nat, k ≤ zs.length ∧ i = .int .i64 k ∧ Hid ((zs.take k).contains d = false)) (fun i => zs.length - (intOf i).toNat)
  case atStart => exact ⟨0, Nat.zero_le _, rfl, Lib.hid rfl⟩
  case round =>
    obtain ⟨k, hk, rfl, HK⟩ := hrel
    by_cases hlt : k < zs.length
    · obtain ⟨b, off, v, rfl, hb, hcell, HV, v1, v2⟩ := hI.get hlt
      have HI := Lib.hid hI
      clear hI
      by_cases he : d = v
      · have HN : Hid (r = true) := Lib.hid (by rw [← HR.out]; exact in_at hlt (by rw [HV.out]; exact he.symm))
        have hq : (d == v) = true := beq_t he
        clear he
        go_wp2
        go_ret
        exact ⟨⟨_, rfl, by rw [HN.out]; exact decide_eq_true (by omega)⟩, rfl⟩
      · have HN := Lib.hid (not_in_step hlt HK.out (by rw [HV.out]; exact fun g => he g.symm))
        have hq : (d == v) = false := beq_f he
        clear he
        go_wp2
        go_round
        case rel => exact ⟨k + 1, by omega, by go_num, HN⟩
        case measure => simp [intOf]; omega
    · obtain rfl : k = zs.length := by omega
      have HE := HK.out
      rw [List.take_length] at HE
      have HE := Lib.hid HE
      go_wp2
      go_ret
      exact ⟨⟨_, rfl, by rw [← HR.out, HE.out]; rfl⟩, rfl⟩

theorem contains_any (A : Option Addr) (zs : List Int) (cap : Nat) (d : Int) (w : World) (hI : Ints w A zs) :
    Calls Try.prog 61 #[.slice A zs.length cap, .int .i64 d] w fun e w' => e = .returned (.bool (zs.contains d)) ∧ w = w' := by
  have HC := Lib.hid (index_any A zs cap d w hI)
  clear hI
  generalize zs.contains d = v at *
  go_enter Try.func61, Try.ntmps61
  go_wp2_with fail
  refine HC.out.mono ?_
  rintro e w' ⟨⟨i, rfl, hi⟩, rfl⟩
  subst hi
  go_wp2
  go_ret
  exact ⟨rfl, rfl⟩
end Go.Proofs.Ythahfcehfagepaa
