/- Contracts: names. -/
import Derived.Test.YtlnllbcpbohahabWordsA
namespace Go.Proofs.Ytlnllbcpbohahab
open Go.RowKit
set_option linter.unusedVariables false

def lord (c : UInt8) : Bool := WM.letter c || WM.dig c
theorem name_eq (l : List UInt8) : WM.name l = (l.all lord && WM.letter (l.headD 0) && decide (l.length ≤ 12)) := rfl

set_option maxHeartbeats 1000000 in
theorem name_any (s : ByteArray) (w : World) (hs : s.size ≤ 9223372036854775807) :
    Calls Try.prog 14 #[.string s] w fun e w' => e = .returned (.bool (WM.name (L s))) ∧ w = w' := by
  have HQ := name_eq (L s)
  generalize hv : WM.name (L s) = v at *
  clear hv
  rw [L_len] at HQ
  by_cases h0 : s.size = 0
  · rw [L_nil h0] at HQ
    have HN : Hid (v = false) := Lib.hid (by rw [HQ]; rfl)
    clear HQ
    have c0 : ((s.size : Int) == 0) = true := beq_t (by omega)
    go_enter Try.func14, Try.ntmps14
    go_wp2
    go_ret
    exact ⟨by rw [HN.out]; rfl, rfl⟩
  · have hp : 0 < s.size := by omega
    rw [L_head s hp] at HQ
    have c0 : ((s.size : Int) == 0) = false := beq_f (by omega)
    clear h0
    by_cases h1 : 12 < s.size
    · have HN : Hid (v = false) := Lib.hid (by
        rw [HQ, show decide (s.size ≤ 12) = false by simp; omega]; simp)
      clear HQ
      go_enter Try.func14, Try.ntmps14
      go_wp2
      go_ret
      exact ⟨by rw [HN.out]; rfl, rfl⟩
    · have e1 : decide (s.size ≤ 12) = true := by simp; omega
      rw [e1] at HQ
      clear e1
      cases hl : WM.letter s[0]
      · have HN : Hid (v = false) := Lib.hid (by rw [HQ, hl]; simp)
        clear HQ
        go_enter Try.func14, Try.ntmps14
        go_wp2_with (go_at_call 26; refine (isLetter_any _ _).mono ?_; rintro e w' ⟨rfl, rfl⟩)
        go_ret
        exact ⟨by rw [HN.out]; rfl, rfl⟩
      · have HN : Hid (v = (L s).all lord) := Lib.hid (by rw [HQ, hl]; simp)
        clear HQ
        go_enter Try.func14, Try.ntmps14
        go_wp2_with (go_at_call 26; refine (isLetter_any _ _).mono ?_; rintro e w' ⟨rfl, rfl⟩)
        go_loop [20] (fun i => ∃ k : Nat, k ≤ s.size ∧ i = .int .i64 k ∧ Hid (((L s).take k).all lord = true)) (fun i => s.size - (intOf i).toNat)
        case atStart => exact ⟨0, by omega, rfl, Lib.hid rfl⟩
        case round =>
          clear hl
          obtain ⟨k, hk, rfl, HA⟩ := hrel
          by_cases hlt : k < s.size
          · cases hl : WM.letter s[k]
            · cases hd : WM.dig s[k]
              · have HF := Lib.hid (all_not (p := lord) hlt (by unfold lord; rw [hl, hd]; rfl))
                go_wp2_with (first
                  | (go_at_call 26; refine (isLetter_any _ _).mono ?_; rintro e w' ⟨rfl, rfl⟩)
                  | (go_at_call 27; refine (isDigit_any _ _).mono ?_; rintro e w' ⟨rfl, rfl⟩))
                go_ret
                exact ⟨by rw [HN.out, HF.out]; rfl, rfl⟩
              · have HF := Lib.hid (all_step (p := lord) hlt HA.out (by unfold lord; rw [hl, hd]; rfl))
                go_wp2_with (first
                  | (go_at_call 26; refine (isLetter_any _ _).mono ?_; rintro e w' ⟨rfl, rfl⟩)
                  | (go_at_call 27; refine (isDigit_any _ _).mono ?_; rintro e w' ⟨rfl, rfl⟩))
                go_round
                case rel => exact ⟨k + 1, by omega, by go_num, HF⟩
                case measure => simp [intOf]; omega
            · have HF := Lib.hid (all_step (p := lord) hlt HA.out (by unfold lord; rw [hl]; rfl))
              go_wp2_with (first
                | (go_at_call 26; refine (isLetter_any _ _).mono ?_; rintro e w' ⟨rfl, rfl⟩)
                | (go_at_call 27; refine (isDigit_any _ _).mono ?_; rintro e w' ⟨rfl, rfl⟩))
              go_round
              case rel => exact ⟨k + 1, by omega, by go_num, HF⟩
              case measure => simp [intOf]; omega
          · obtain rfl : k = s.size := by omega
            have HE := HA.out
            rw [L_take_all] at HE
            have HE := Lib.hid HE
            go_wp2
            go_ret
            exact ⟨by rw [HN.out, HE.out]; rfl, rfl⟩

end Go.Proofs.Ytlnllbcpbohahab
