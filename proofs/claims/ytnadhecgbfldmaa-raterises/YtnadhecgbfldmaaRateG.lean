/- Contracts of layer 8: the program's Total. -/
import Derived.Test.YtnadhecgbfldmaaRateF
import Derived.Test.YtnadhecgbfldmaaRateMath3
import Derived.Test.YtnadhecgbfldmaaMade
import Derived.Test.YtnadhecgbfldmaaCentsG
namespace Go.Proofs.Ytnadhecgbfldmaa
open Go.RowKit Go.Recs
set_option linter.unusedVariables false

theorem sum_is (A : Option Addr) (zs : List Int) (m cap : Nat) (hm : zs.length = m) (w : World) (hI : Ints w A zs) :
    Calls Try.prog 49 #[.slice A m cap] w fun e w' => e = .returned (.tuple #[.int .i64 (CM.sumN zs), .int .i64 (CM.sumE zs)]) ∧ w = w' := by
  subst hm; exact sum_any A zs cap w hI

set_option maxHeartbeats 2000000 in
theorem total_any (A C : Option Addr) (l : List RM.Rate) (n : List Int) (cap cn : Nat) (mode : Int) (w : World) (hI : Rates w A l) (hcap : l.length ≤ cap) (hN : Ints w C n) :
    Calls Try.prog 40 #[.slice A l.length cap, .slice C n.length cn, .int .i64 mode] w fun e w' => e = .returned (.tuple #[.int .i64 (RM.toN l n mode), .int .i64 (RM.toE l n mode)]) ∧ Below w.heap.size w w' := by
  have hlen := hI.len
  have nlen := hN.len
  have C0 := Lib.hid (rtcheck_any A l cap w hI hcap)
  by_cases hc : RM.checkE l = 0
  · have l8 := (RM.ok_parts hc).2.1
    by_cases h8 : l.length < n.length
    · obtain ⟨e1, e2⟩ := @RM.to_long l n mode hc h8
      rw [hc] at C0
      rw [e1, e2]; clear e1 e2 hc
      go_enter Try.func40, Try.ntmps40
      go_wp2_with fail
      refine (C0.out).mono ?_
      rintro e w1 ⟨rfl, b1⟩
      go_wp2_with fail
      go_ret2
      exact ⟨rfl, b1⟩
    · have KS := Lib.hid (fun k => @RM.to_stop l n mode k hc (by omega))
      have KE := Lib.hid (@RM.to_sum l n mode hc (by omega))
      rw [hc] at C0
      generalize RM.toN l n mode = x at *
      generalize RM.toE l n mode = y at *
      clear hc
      have hmk := make_ints n.length (by omega)
      go_enter Try.func40, Try.ntmps40
      go_wp2_with fail
      refine (C0.out).mono ?_
      rintro e w1 ⟨rfl, b1⟩
      have HB1 := Lib.hid b1
      have hg1 := b1.size
      have HR1 := Lib.hid (Row.made w1 n.length)
      have HB2 := Lib.hid (HB1.out.alloc hg1 (.cells (zeros n.length) 3))
      clear b1
      go_wp2_with fail
      clear hmk
      generalize hgd : w1.heap.size = gd at *
      generalize w1.alloc (.cells (zeros n.length) 3) = w2 at *
      clear hgd HB1
      go_loopw [6, 7, 10, 11, 27] (fun _ _ _ _ i wr => ∃ k : Nat, k ≤ n.length ∧ i = .int .i64 k ∧ Hid (RM.fe l n mode k = 0) ∧ Hid (Row wr gd (RM.pre l n mode k)) ∧ Hid (Below w.heap.size w wr)) (fun _ _ _ _ i _ => n.length - (intOf i).toNat)
      case atStart => exact ⟨0, by omega, rfl, Lib.hid rfl, by rw [RM.pre_zero]; exact HR1, HB2⟩
      case round =>
        clear HR1 HB2
        obtain ⟨k, hk, rfl, HE, HR, HB⟩ := hrel
        by_cases hlt : k < n.length
        · obtain ⟨b, off, v, rfl, hb, hcell, HV, v1, v2⟩ := (hN.below HB.out).get hlt
          have C1 := Lib.hid (base_any A l cap v k mode wr (hI.below HB.out) hcap)
          have HX : Hid (RM.bN l n mode k = RM.cvN l v k 0 mode) := Lib.hid (by unfold RM.bN; rw [HV.out])
          have HY : Hid (RM.bE l n mode k = RM.cvE l v k 0 mode) := Lib.hid (by unfold RM.bE; rw [HV.out])
          rw [← HX.out, ← HY.out] at C1
          have HSet := Lib.hid (@RM.pre_set l n mode k hlt)
          have HST := Lib.hid (@RM.fe_step l n mode k HE.out)
          have HSP := Lib.hid (KS.out k hlt HE.out)
          have plen := @RM.pre_len l n mode k hk
          have PL := Lib.hid plen
          generalize RM.bN l n mode k = p at *
          generalize RM.bE l n mode k = q at *
          have HI := Lib.hid hI
          have HNN := Lib.hid hN
          clear hI hN HX HY plen
          go_wp2_with fail
          refine (C1.out).mono ?_
          rintro e w3 ⟨rfl, b3⟩
          have hlt2 : gd < wr.heap.size := HR.out.lt
          have HR3 := Lib.hid (HR.out.below b3 hlt2)
          have HB3 := Lib.hid (HB.out.trans (b3.mono HB.out.size))
          have hc3 := HR3.out.cell k (by rw [PL.out]; exact hlt)
          have hf3 := HR3.out.frozen k
          have HR4 : Hid (Row (w3.setCell ⟨gd, k, none⟩ (.int .i64 p)) gd (RM.pre l n mode (k + 1))) := Lib.hid (by rw [← HSet.out]; exact HR3.out.set_ k p)
          have HB4 : Hid (Below w.heap.size w (w3.setCell ⟨gd, k, none⟩ (.int .i64 p))) := Lib.hid (HB3.out.setCell (p := ⟨gd, k, none⟩) hg1 _)
          clear b3 hcell
          by_cases hq : q = 0
          · subst hq
            have HS2 := Lib.hid (HST.out rfl)
            go_wp2_with fail
            go_roundw
            case rel => exact ⟨k + 1, by omega, by go_num, HS2, HR4, HB4⟩
            case measure => simp [intOf]; omega
          · have HF := Lib.hid (HSP.out hq)
            have hd : (q != 0) = true := by simpa using hq
            clear hq
            go_wp2_with fail
            go_ret2
            exact ⟨by rw [HF.out.1, HF.out.2]; rfl, HB4.out⟩
        · obtain rfl : k = n.length := by omega
          have HF := Lib.hid (KE.out HE.out)
          have HR2 := HR.out
          rw [RM.pre_all] at HR2
          have hJ := HR2.ints (by rw [RM.conv_len]; unfold maxLen; omega) (RM.conv_range l n mode n.length)
          have CS := Lib.hid (sum_is _ _ n.length n.length (RM.conv_len l n mode n.length) _ hJ)
          rw [← HF.out.1, ← HF.out.2] at CS
          clear hJ HR2
          go_wp2_with fail
          refine (CS.out).mono ?_
          rintro e w3 ⟨rfl, rfl⟩
          go_wp2_with fail
          go_ret2
          exact ⟨rfl, HB.out⟩
  · obtain ⟨e1, e2⟩ := @RM.to_bad l n mode hc
    rw [e1, e2]; clear e1 e2
    have hne : (RM.checkE l != 0) = true := by simpa using hc
    generalize RM.checkE l = x at *
    clear hc
    go_enter Try.func40, Try.ntmps40
    go_wp2_with fail
    refine (C0.out).mono ?_
    rintro e w1 ⟨rfl, b1⟩
    go_wp2_with fail
    go_ret2
    exact ⟨rfl, b1⟩
end Go.Proofs.Ytnadhecgbfldmaa
