/- Contracts of layer 8: the program's Find. -/
import Derived.Test.YtnadhecgbfldmaaRateA
namespace Go.Proofs.Ytnadhecgbfldmaa
open Go.RowKit Go.Recs
set_option linter.unusedVariables false

set_option maxHeartbeats 1000000 in
theorem find_any (A : Option Addr) (l : List RM.Rate) (n cap : Nat) (hn : n = l.length) (s : ByteArray) (w : World) (hI : Rates w A l) :
    Calls Try.prog 29 #[.slice A n cap, .string s] w fun e w' => e = .returned (.tuple #[.int .i64 (RM.fN l s), .bool (RM.fB l s)]) ∧ Below w.heap.size w w' := by
  subst hn
  have HY := Lib.hid (fun k => @RM.find_yes l s k)
  have HN := Lib.hid (@RM.find_no l s)
  have hlen := hI.len
  generalize RM.fN l s = x at *
  generalize RM.fB l s = y at *
  go_enter Try.func29, Try.ntmps29
  go_wp2
  go_loopw [6, 7, 10] (fun _ _ i wr => ∃ k : Nat, k ≤ l.length ∧ i = .int .i64 k ∧ Hid (∀ j, j < k → RM.hit s (RM.at_ l j) = false) ∧ Hid (Below w.heap.size w wr)) (fun _ _ i _ => l.length - (intOf i).toNat)
  case atStart => exact ⟨0, by omega, rfl, Lib.hid (fun j h => by omega), Lib.hid (Below.refl _ _)⟩
  case round =>
    obtain ⟨k, hk, rfl, HE, HB⟩ := hrel
    by_cases hlt : k < l.length
    · obtain ⟨b, off, t, m, rfl, hb, hc0, hc1, HV, t1, m1, m2⟩ := (hI.below HB.out).get hlt
      have HI := Lib.hid hI
      clear hI
      have HB2 := Lib.hid (fun o => HB.out.alloc HB.out.size o)
      cases he : (t.toList == s.toList)
      · have HE2 : Hid (∀ j, j < k + 1 → RM.hit s (RM.at_ l j) = false) := Lib.hid (fun j hj => by
          rcases Nat.lt_or_ge j k with g | g
          · exact HE.out j g
          · obtain rfl : j = k := by omega
            rw [HV.out]; exact he)
        go_wp2
        go_roundw
        case rel => exact ⟨k + 1, by omega, by go_num, HE2, Lib.hid (HB2.out _)⟩
        case measure => simp [intOf]; omega
      · have HR := Lib.hid (HY.out k hlt HE.out (by rw [HV.out]; exact he))
        go_wp2
        go_ret2
        exact ⟨by rw [HR.out.1, HR.out.2]; rfl, HB2.out _⟩
    · obtain rfl : k = l.length := by omega
      have HR := Lib.hid (HN.out HE.out)
      go_wp2
      go_ret2
      exact ⟨by rw [HR.out.1, HR.out.2]; rfl, HB.out⟩
end Go.Proofs.Ytnadhecgbfldmaa
