import Derived.Test.YtgpdkidbmfngmaaCentsG
namespace Go.Proofs.Ytgpdkidbmfngmaa.centsSums
open Go.RowKit
set_option linter.unusedVariables false

theorem rev_step (zs : List Int) (k : Nat) (hk : k < zs.length) : (zs.drop (zs.length - (k + 1))).reverse = (zs.drop (zs.length - k)).reverse ++ [zs.getD (zs.length - (k + 1)) 0] := by
  have h : zs.length - (k + 1) < zs.length := by omega
  rw [List.drop_eq_getElem_cons h, List.reverse_cons, LM.getD_at _ _ h]
  rw [show zs.length - (k + 1) + 1 = zs.length - k by omega]

set_option maxHeartbeats 1000000 in
theorem walk (A : Option Addr) (cap : Nat) (zs : List Int) (w : World) (hI : Ints w A zs) (hl : zs.length ≤ 1048576) :
    Calls Try.prog 4 #[.slice A zs.length cap] w fun e w' => e = .returned (.bool true) ∧ Below w.heap.size w w' := by
  go_enter Try.func4, Try.ntmps4
  go_wp2
  go_loopw [3, 4] (fun v i wr => ∃ k : Nat, k ≤ zs.length ∧ i = .int .i64 ((zs.length : Int) - 1 - k) ∧ Own wr w.heap.size v (zs.drop (zs.length - k)).reverse ∧ Below w.heap.size w wr)
    (fun _ i _ => (intOf i + 1).toNat)
  case atStart => exact ⟨0, by omega, by simp, by simpa using Own.nil w w.heap.size, Below.refl _ _⟩
  case round =>
    obtain ⟨k, hk, rfl, hown, hB⟩ := hrel
    by_cases hlt : k < zs.length
    · have hlt2 : zs.length - (k + 1) < zs.length := by omega
      have hI2 := hI.below hB
      obtain ⟨b, off, x, rfl, hb, hcell, HV, v1, v2⟩ := hI2.get hlt2
      have HI := Lib.hid hI
      have HR := Lib.hid (rev_step zs k hlt)
      have e1 : ((zs.length : Int) - 1 - k).toNat = zs.length - (k + 1) := by omega
      clear hI hI2
      go_wp2_with (at_builtin; refine wpList_push _ x w.heap.size _ _ _ rfl rfl _ rfl rfl hown ?c1 ?c2 ?_)
      case c1 => simp; omega
      case c2 => exact hB.size
      intro v' w1 ho hb1 hs1 _
      clear hown hcell
      go_wp2
      go_roundw
      case rel => exact ⟨k + 1, by omega, by go_num, by rw [HR.out, HV.out]; exact ho, hB.trans hb1⟩
      case measure => simp [intOf]; omega
    · obtain rfl : k = zs.length := by omega
      rw [show zs.drop (zs.length - zs.length) = zs by simp] at hown
      obtain ⟨A', cap', hv, hI'⟩ := hown.ints (fun n hn => hI.2.1 n (List.mem_reverse.1 hn))
      subst hv
      have hI2 := hI.below hB
      clear hI
      have el : zs.reverse.length = zs.length := List.length_reverse
      have E1 := CM.sumN_reverse zs
      have E2 := CM.sumE_reverse zs
      rw [el]
      go_wp2_with fail
      refine (sum_any _ _ _ _ hI2).mono ?_
      rintro e w1 ⟨rfl, rfl⟩
      go_wp2_with fail
      refine (rsum_any _ _ _ _ hI2 (by omega)).mono ?_
      rintro e w1 ⟨rfl, rfl⟩
      go_wp2_with fail
      rw [← el]
      refine (sum_any _ _ _ _ hI').mono ?_
      rintro e w1 ⟨rfl, rfl⟩
      go_wp2_with fail
      refine (goes1_any _).mono ?_
      rintro e w1 ⟨rfl, hb1⟩
      go_wp2
      go_ret
      exact ⟨rfl, hB.trans (hb1.mono hB.size)⟩
end Go.Proofs.Ytgpdkidbmfngmaa.centsSums
