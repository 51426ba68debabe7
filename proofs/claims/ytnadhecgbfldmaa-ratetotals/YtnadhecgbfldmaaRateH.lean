/- Contracts of layer 8: the reference's Total. -/
import Derived.Test.YtnadhecgbfldmaaRateF
import Derived.Test.YtnadhecgbfldmaaRateMath3
import Derived.Test.YtnadhecgbfldmaaOwn
import Derived.Test.YtnadhecgbfldmaaCentsG
import Derived.Deep.AppendSrc
namespace Go.Proofs.Ytnadhecgbfldmaa
open Go.RowKit Go.Recs
set_option linter.unusedVariables false

theorem rsum_is (A : Option Addr) (zs : List Int) (m cap : Nat) (hm : zs.length = m) (w : World) (hI : Ints w A zs) (hl : m ≤ 4294967296) :
    Calls Try.prog 50 #[.slice A m cap] w fun e w' => e = .returned (.tuple #[.int .i64 (CM.sumN zs), .int .i64 (CM.sumE zs)]) ∧ w = w' := by
  subst hm; exact rsum_any A zs cap w hI hl

set_option maxHeartbeats 2000000 in
theorem rtotal_any (A C : Option Addr) (l : List RM.Rate) (n : List Int) (cap cn : Nat) (mode : Int) (w : World) (hI : Rates w A l) (hN : Ints w C n) :
    Calls Try.prog 41 #[.slice A l.length cap, .slice C n.length cn, .int .i64 mode] w fun e w' => e = .returned (.tuple #[.int .i64 (RM.toN l n mode), .int .i64 (RM.toE l n mode)]) ∧ Below w.heap.size w w' := by
  have hlen := hI.len
  have nlen := hN.len
  have C0 := Lib.hid (rcheck_any A l cap w hI)
  by_cases hc : RM.checkE l = 0
  · have l8 := (RM.ok_parts hc).2.1
    by_cases h8 : l.length < n.length
    · obtain ⟨e1, e2⟩ := @RM.to_long l n mode hc h8
      rw [hc] at C0
      rw [e1, e2]; clear e1 e2 hc
      go_enter Try.func41, Try.ntmps41
      go_wp2_with fail
      refine (C0.out).mono ?_
      rintro e w1 ⟨rfl, rfl⟩
      go_wp2_with fail
      go_ret2
      exact ⟨rfl, Below.refl _ _⟩
    · have KS := Lib.hid (fun k => @RM.to_stop l n mode k hc (by omega))
      have KE := Lib.hid (@RM.to_sum l n mode hc (by omega))
      rw [hc] at C0
      generalize RM.toN l n mode = x at *
      generalize RM.toE l n mode = y at *
      clear hc
      go_enter Try.func41, Try.ntmps41
      go_wp2_with fail
      refine (C0.out).mono ?_
      rintro e w1 ⟨rfl, rfl⟩
      go_wp2_with fail
      go_loopw [6, 7, 9, 10, 11, 12] (fun _ _ v i _ _ wr => ∃ k : Nat, k ≤ n.length ∧ i = .int .i64 k ∧ Hid (RM.fe l n mode k = 0) ∧ Own wr w.heap.size v (RM.conv l n mode k) ∧ Hid (Below w.heap.size w wr)) (fun _ _ _ i _ _ _ => n.length - (intOf i).toNat)
      case atStart => exact ⟨0, by omega, rfl, Lib.hid rfl, Own.nil _ _, Lib.hid (Below.refl _ _)⟩
      case round =>
        obtain ⟨k, hk, rfl, HE, hO, HB⟩ := hrel
        have HO := Lib.hid hO
        clear hO
        by_cases hlt : k < n.length
        · obtain ⟨b, off, v, rfl, hb, hcell, HV, v1, v2⟩ := (hN.below HB.out).get hlt
          have C1 := Lib.hid (rbase_any A l cap v k mode wr (hI.below HB.out))
          have HX : Hid (RM.bN l n mode k = RM.cvN l v k 0 mode) := Lib.hid (by unfold RM.bN; rw [HV.out])
          have HY : Hid (RM.bE l n mode k = RM.cvE l v k 0 mode) := Lib.hid (by unfold RM.bE; rw [HV.out])
          rw [← HX.out, ← HY.out] at C1
          have HSet := Lib.hid (RM.conv_succ l n mode k)
          have HST := Lib.hid (@RM.fe_step l n mode k HE.out)
          have HSP := Lib.hid (KS.out k hlt HE.out)
          have plen := RM.conv_len l n mode k
          generalize RM.bN l n mode k = p at *
          generalize RM.bE l n mode k = q at *
          have HI := Lib.hid hI
          have HNN := Lib.hid hN
          have PL := Lib.hid plen
          clear hI hN HX HY plen
          go_wp2_with fail
          refine (C1.out).mono ?_
          rintro e w3 ⟨rfl, d, hw3⟩
          have HB3 : Hid (Below w.heap.size w w3) := Lib.hid (by rw [hw3]; exact below_drewN HB.out d)
          have hO3 : Own w3 w.heap.size u9 (RM.conv l n mode k) := by rw [hw3]; exact HO.out.drewN d
          clear hw3 hcell HO
          by_cases hq : q = 0
          · subst hq
            have HS2 := Lib.hid (HST.out rfl)
            go_wp2_with (at_builtin; refine wpList_push _ p w.heap.size _ _ _ rfl rfl _ rfl rfl hO3 ?c1 ?c2 ?_)
            case c1 => rw [PL.out]; omega
            case c2 => exact HB3.out.size
            intro v' w4 ho hb4 hs4 _
            clear hO3
            go_wp2_with fail
            go_roundw
            case rel => exact ⟨k + 1, by omega, by go_num, HS2, by rw [HSet.out]; exact ho, Lib.hid (HB3.out.trans hb4)⟩
            case measure => simp [intOf]; omega
          · have HF := Lib.hid (HSP.out hq)
            have hd : (q != 0) = true := by simpa using hq
            clear hq
            go_wp2_with fail
            go_ret2
            exact ⟨by rw [HF.out.1, HF.out.2]; rfl, HB3.out⟩
        · obtain rfl : k = n.length := by omega
          have HF := Lib.hid (KE.out HE.out)
          obtain ⟨D, cd, rfl, hJ⟩ := HO.out.ints (RM.conv_range l n mode n.length)
          have CS := Lib.hid (rsum_is _ _ _ cd rfl _ hJ (by rw [RM.conv_len]; omega))
          rw [← HF.out.1, ← HF.out.2] at CS
          clear hJ
          go_wp2_with fail
          refine (CS.out).mono ?_
          rintro e w3 ⟨rfl, rfl⟩
          go_wp2_with fail
          go_ret2
          exact ⟨rfl, HB.out⟩
  · obtain ⟨e1, e2⟩ := @RM.to_bad l n mode hc
    rw [e1, e2]; clear e1 e2
    have hne : (RM.checkE l != 0) = true := by simpa using hc
    generalize RM.checkE l = x at *
    clear hc
    go_enter Try.func41, Try.ntmps41
    go_wp2_with fail
    refine (C0.out).mono ?_
    rintro e w1 ⟨rfl, rfl⟩
    go_wp2_with fail
    go_ret2
    exact ⟨rfl, Below.refl _ _⟩
end Go.Proofs.Ytnadhecgbfldmaa
