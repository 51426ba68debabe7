import Derived.Test.YtgpdkidbmfngmaaShareJ
import Derived.Test.YtgpdkidbmfngmaaLawMath
namespace Go.Proofs.Ytgpdkidbmfngmaa.shareWhole
open Go.RowKit
set_option linter.unusedVariables false

set_option maxHeartbeats 4000000 in
set_option maxRecDepth 100000 in
theorem walk (total : Int) (A : Option Addr) (ca : Nat) (zs : List Int) (w : World) (w0 : -9223372036854775808 ≤ total ∧ total ≤ 9223372036854775807) (hA : Ints w A zs) :
    Calls Try.prog 11 #[.int .i64 total, .slice A zs.length ca] w fun e w' => e = .returned (.bool true) ∧ Below w.heap.size w w' := by
  have hlA := hA.len
  clear w0
  by_cases hl : 200 < zs.length
  · go_enter Try.func11, Try.ntmps11
    go_wp2_with fail
    refine (goes2_any _).mono ?_
    rintro e w1 ⟨rfl, b1⟩
    go_wp2
    go_ret
    exact ⟨rfl, b1⟩
  · have C1 := split_any total A zs ca w hA
    by_cases hE : SM.splE total zs = 0
    · obtain ⟨h1, hw, h0, hl2⟩ := SM.splE_ok hE
      obtain ⟨t0, t1⟩ := SM.inR_true.1 h1
      obtain ⟨hr, ht⟩ := SM.wOk_parts hw
      have htp : 0 < LM.tot zs := by have := SM.tot_nonneg hr; omega
      have hN : SM.splN total zs = SM.parts total (LM.tot zs) zs := (SM.spl_ok h1 (by omega) hw h0).2
      rw [hE, hN] at C1
      have hpl := SM.parts_len total (LM.tot zs) zs
      have hps := SM.parts_sum hw h0 t0
      have hpa := SM.parts_allR hw h0 t0 t1
      have HSH := Lib.hid (fun i hi => SM.part_share hw h0 t0 i hi)
      have HLT := Lib.hid (fun i k hi hk h => SM.pair_lt hw h0 t0 i k hi hk h)
      have HEQ := Lib.hid (fun i k hi hk h => SM.pair_eq hw h0 t0 i k hi hk h)
      have HLE := Lib.hid (fun i hi => SM.parts_le hw h0 t0 i hi)
      have HEL := Lib.hid (fun (k : Nat) (hk : k < zs.length) => SM.elem_le hr hk)
      have CW := fun W (h : Ints W A zs) => rsum2_any A zs ca W h hr ht
      generalize SM.parts total (LM.tot zs) zs = l at *
      have HC1 := Lib.hid C1; have HPL := Lib.hid hpl; have HPS := Lib.hid hps; have HPA := Lib.hid hpa; have HR := Lib.hid hr; have HCW := Lib.hid CW
      generalize LM.tot zs = all at *
      clear C1 hpl hps hpa hr CW hN hE hw h0 h1
      go_enter Try.func11, Try.ntmps11
      go_wp2_with fail
      refine HC1.out.mono ?_
      rintro e w1 ⟨v, rfl, o1, b1⟩
      obtain ⟨A1, c1, rfl, i1⟩ := o1.ints (range_of HPA.out)
      have CL := rsum2_any A1 l c1 w1 i1 HPA.out (by rw [HPS.out]; exact t1)
      rw [HPS.out, HPL.out] at CL
      have HCL := Lib.hid CL
      rw [HPL.out]
      have i0 := hA.below b1
      clear o1 CL
      go_wp2_with fail
      refine HCL.out.mono ?_
      rintro e w2 ⟨rfl, rfl⟩
      go_wp2_with fail
      refine (HCW.out _ i0).mono ?_
      rintro e w2 ⟨rfl, rfl⟩
      go_wp2
      go_loopw [8] (fun i wr => ∃ k : Nat, k ≤ zs.length ∧ i = .int .i64 k ∧ ∃ n, wr = w1.drewN n) (fun i _ => zs.length - (intOf i).toNat)
      case atStart => exact ⟨0, by omega, rfl, 0, rfl⟩
      case round =>
        obtain ⟨k, hk, rfl, n, rfl⟩ := hrel
        by_cases hlt : k < zs.length
        · obtain ⟨b, off, x, rfl, hb, hcell, HX, x1, x2⟩ := i1.get (k := k) (by rw [HPL.out]; exact hlt)
          obtain ⟨ba, offa, y, rfl, hba, hcella, HY, y1, y2⟩ := i0.get hlt
          obtain ⟨y0, _⟩ := SM.allR_get HR.out hlt
          have y3 := HEL.out k hlt
          have sh := HSH.out k hlt
          have xle := HLE.out k hlt
          rw [HY.out] at y0 y3 sh
          rw [HX.out] at sh xle
          have q0 := SM.pq_nonneg t0 y0 htp
          have q1 := SM.pq_le t0 y3 htp
          have HSH2 := Lib.hid sh
          clear sh
          obtain ⟨q, hq⟩ : ∃ q, SM.pq total y all = q := ⟨_, rfl⟩
          obtain ⟨r, hr⟩ : ∃ r, SM.pr total y all = r := ⟨_, rfl⟩
          rw [hq] at q0 q1 HSH2
          rw [hr] at HSH2
          have CD := rdiv_any total y all (w1.drewN n) t0 t1 y0 y3 htp ht
          rw [hq, hr] at CD
          have HCD := Lib.hid CD
          clear CD hq hr
          rcases HSH2.out with hs | ⟨hs, hrp⟩
          · subst hs
            go_wp2_with fail
            refine HCD.out.mono ?_
            rintro e w2 ⟨rfl, rfl⟩
            go_wp2
            go_loopw [11] (fun i wr => ∃ j : Nat, j ≤ k ∧ i = .int .i64 j ∧ ∃ n, wr = w1.drewN n) (fun i _ => k - (intOf i).toNat)
            case atStart => exact ⟨0, by omega, rfl, n, rfl⟩
            case round =>
              obtain ⟨j, hj, rfl, n2, rfl⟩ := hrel
              by_cases hjk : j < k
              · obtain ⟨b', off', x', e', _, hcell', HX', _, _⟩ := i1.get (k := j) (by rw [HPL.out]; omega)
                injection e' with e'
                injection e' with e1' e2'
                subst e1' e2'
                obtain ⟨ba', offa', y', e', _, hcella', HY', _, _⟩ := i0.get (k := j) (by omega)
                injection e' with e'
                injection e' with e1' e2'
                subst e1' e2'
                have lt1 : y' < y → x' ≤ x := fun h => by rw [← HX.out, ← HX'.out]; exact HLT.out k j hlt (by omega) (by rw [HY.out, HY'.out]; exact h)
                have lt2 : y < y' → x ≤ x' := fun h => by rw [← HX.out, ← HX'.out]; exact HLT.out j k (by omega) hlt (by rw [HY.out, HY'.out]; exact h)
                have eq1 : y' = y → x ≤ x' ∧ x' ≤ x + 1 := fun h => by rw [← HX.out, ← HX'.out]; exact HEQ.out k j hlt hjk (by rw [HY.out, HY'.out]; exact h)
                by_cases z1 : y' < y
                · have h1 := lt1 z1
                  have g1 : (decide (y' < y)) = true := by simp; omega
                  have g2 : (decide (x < x')) = false := by simp; omega
                  have g3 : (decide (y < y')) = false := by simp; omega
                  have g4 : (y' == y) = false := by simp; omega
                  clear lt1 lt2 eq1
                  go_wp2
                  go_quiet (fail)
                  go_wp2
                  go_roundw
                  case rel => exact ⟨j + 1, by omega, by go_num, _, rfl⟩
                  case measure => simp [intOf]; omega
                · by_cases z2 : y < y'
                  · have h1 := lt2 z2
                    have g1 : (decide (y' < y)) = false := by simp; omega
                    have g2 : (decide (x' < x)) = false := by simp; omega
                    have g3 : (decide (y < y')) = true := by simp; omega
                    have g4 : (y' == y) = false := by simp; omega
                    clear lt1 lt2 eq1
                    go_wp2
                    go_quiet (fail)
                    go_wp2
                    go_roundw
                    case rel => exact ⟨j + 1, by omega, by go_num, _, rfl⟩
                    case measure => simp [intOf]; omega
                  · obtain rfl : y' = y := by omega
                    obtain ⟨h1, h2⟩ := eq1 rfl
                    have g1 : (decide (y' < y')) = false := by simp
                    have g2 : (y' == y') = true := by simp
                    have g3 : (decide (x' < x)) = false := by simp; omega
                    have g5 : wrap64 (x + 1) = x + 1 := IntWalk.wrap64_in _ (by omega)
                    have g4 : (decide (x + 1 < x')) = false := by simp; omega
                    clear lt1 lt2 eq1
                    go_wp2
                    go_quiet (fail)
                    go_wp2
                    go_roundw
                    case rel => exact ⟨j + 1, by omega, by go_num, _, rfl⟩
                    case measure => simp [intOf]; omega
              · go_wp2
                go_roundw
                case rel => exact ⟨k + 1, by omega, by go_num, _, rfl⟩
                case measure => simp [intOf]; omega
          · have e1 : (x != q) = true := by simp; omega
            have e2 : (x != q + 1) = false := by simp; omega
            have e3 : (r == 0) = false := by simp; omega
            clear hs
            go_wp2_with fail
            refine HCD.out.mono ?_
            rintro e w2 ⟨rfl, rfl⟩
            go_wp2
            go_loopw [11] (fun i wr => ∃ j : Nat, j ≤ k ∧ i = .int .i64 j ∧ ∃ n, wr = w1.drewN n) (fun i _ => k - (intOf i).toNat)
            case atStart => exact ⟨0, by omega, rfl, n, rfl⟩
            case round =>
              obtain ⟨j, hj, rfl, n2, rfl⟩ := hrel
              by_cases hjk : j < k
              · obtain ⟨b', off', x', e', _, hcell', HX', _, _⟩ := i1.get (k := j) (by rw [HPL.out]; omega)
                injection e' with e'
                injection e' with e1' e2'
                subst e1' e2'
                obtain ⟨ba', offa', y', e', _, hcella', HY', _, _⟩ := i0.get (k := j) (by omega)
                injection e' with e'
                injection e' with e1' e2'
                subst e1' e2'
                have lt1 : y' < y → x' ≤ x := fun h => by rw [← HX.out, ← HX'.out]; exact HLT.out k j hlt (by omega) (by rw [HY.out, HY'.out]; exact h)
                have lt2 : y < y' → x ≤ x' := fun h => by rw [← HX.out, ← HX'.out]; exact HLT.out j k (by omega) hlt (by rw [HY.out, HY'.out]; exact h)
                have eq1 : y' = y → x ≤ x' ∧ x' ≤ x + 1 := fun h => by rw [← HX.out, ← HX'.out]; exact HEQ.out k j hlt hjk (by rw [HY.out, HY'.out]; exact h)
                by_cases z1 : y' < y
                · have h1 := lt1 z1
                  have g1 : (decide (y' < y)) = true := by simp; omega
                  have g2 : (decide (x < x')) = false := by simp; omega
                  have g3 : (decide (y < y')) = false := by simp; omega
                  have g4 : (y' == y) = false := by simp; omega
                  clear lt1 lt2 eq1
                  go_wp2
                  go_quiet (fail)
                  go_wp2
                  go_roundw
                  case rel => exact ⟨j + 1, by omega, by go_num, _, rfl⟩
                  case measure => simp [intOf]; omega
                · by_cases z2 : y < y'
                  · have h1 := lt2 z2
                    have g1 : (decide (y' < y)) = false := by simp; omega
                    have g2 : (decide (x' < x)) = false := by simp; omega
                    have g3 : (decide (y < y')) = true := by simp; omega
                    have g4 : (y' == y) = false := by simp; omega
                    clear lt1 lt2 eq1
                    go_wp2
                    go_quiet (fail)
                    go_wp2
                    go_roundw
                    case rel => exact ⟨j + 1, by omega, by go_num, _, rfl⟩
                    case measure => simp [intOf]; omega
                  · obtain rfl : y' = y := by omega
                    obtain ⟨h1, h2⟩ := eq1 rfl
                    have g1 : (decide (y' < y')) = false := by simp
                    have g2 : (y' == y') = true := by simp
                    have g3 : (decide (x' < x)) = false := by simp; omega
                    have g5 : wrap64 (x + 1) = x + 1 := IntWalk.wrap64_in _ (by omega)
                    have g4 : (decide (x + 1 < x')) = false := by simp; omega
                    clear lt1 lt2 eq1
                    go_wp2
                    go_quiet (fail)
                    go_wp2
                    go_roundw
                    case rel => exact ⟨j + 1, by omega, by go_num, _, rfl⟩
                    case measure => simp [intOf]; omega
              · go_wp2
                go_roundw
                case rel => exact ⟨k + 1, by omega, by go_num, _, rfl⟩
                case measure => simp [intOf]; omega
        · go_wp2_with fail
          refine (goes2_any _).mono ?_
          rintro e w2 ⟨rfl, b2⟩
          go_wp2
          go_ret
          exact ⟨rfl, (below_drewN b1 n).trans (b2.mono b1.size)⟩
    · have n1 := SM.splN_err hE
      rw [n1] at C1
      have hz : (SM.splE total zs != 0) = true := by simpa using hE
      have HC1 := Lib.hid C1
      clear C1 n1 hE
      go_enter Try.func11, Try.ntmps11
      go_wp2_with fail
      refine HC1.out.mono ?_
      rintro e w1 ⟨v, rfl, o1, b1⟩
      obtain ⟨A1, c1, rfl, i1⟩ := o1.ints (by simp)
      go_wp2_with fail
      refine (goes2_any _).mono ?_
      rintro e w2 ⟨rfl, b2⟩
      go_wp2
      go_ret
      exact ⟨rfl, b1.trans (b2.mono b1.size)⟩
end Go.Proofs.Ytgpdkidbmfngmaa.shareWhole
