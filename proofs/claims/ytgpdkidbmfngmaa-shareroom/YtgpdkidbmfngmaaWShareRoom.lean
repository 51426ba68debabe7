import Derived.Test.YtgpdkidbmfngmaaShareJ
import Derived.Test.YtgpdkidbmfngmaaLawMath
namespace Go.Proofs.Ytgpdkidbmfngmaa.shareRoom
open Go.RowKit
set_option linter.unusedVariables false

set_option maxHeartbeats 4000000 in
set_option maxRecDepth 100000 in
theorem walk (total : Int) (A : Option Addr) (ca : Nat) (zs : List Int) (C : Option Addr) (cc : Nat) (caps : List Int) (w : World) (w0 : -9223372036854775808 ≤ total ∧ total ≤ 9223372036854775807) (hA : Ints w A zs) (hC : Ints w C caps) :
    Calls Try.prog 12 #[.int .i64 total, .slice A zs.length ca, .slice C caps.length cc] w fun e w' => e = .returned (.bool true) ∧ Below w.heap.size w w' := by
  have hlA := hA.len
  have hlC := hC.len
  clear w0
  by_cases hl : 200 < zs.length
  · go_enter Try.func12, Try.ntmps12
    go_wp2_with fail
    refine (goes2_any _).mono ?_
    rintro e w1 ⟨rfl, b1⟩
    go_wp2
    go_ret
    exact ⟨rfl, b1⟩
  · have C1 := capped_any total A C zs caps ca cc w hA hC
    by_cases hE : SM.capE total zs caps = 0
    · have hg := SM.cap_good hE
      obtain ⟨h1, _, hw, hcl, hca⟩ := SM.capE_ok hE
      obtain ⟨t0, t1⟩ := SM.inR_true.1 h1
      have hrg := SM.capN_range total zs caps
      rw [hE, hcl] at C1
      rw [hcl]
      have HC1 := Lib.hid C1
      have HCL := Lib.hid hcl
      have HW := Lib.hid hw
      have HRG := Lib.hid hrg
      generalize SM.capN total zs caps = l at *
      generalize SM.capR total zs caps = rest at *
      obtain ⟨gl, gr0, gs, glow, gcap, gnone, grest⟩ := hg
      simp only [] at gl gr0 gs glow gcap gnone grest
      have GL := Lib.hid gl; have GS := Lib.hid gs; have GLO := Lib.hid glow; have GC := Lib.hid gcap; have GN := Lib.hid gnone; have GR := Lib.hid grest
      clear C1 hcl hE hw hrg gl gs glow gcap gnone grest
      go_enter Try.func12, Try.ntmps12
      go_wp2_with fail
      refine HC1.out.mono ?_
      rintro e w1 ⟨v, rfl, o1, b1⟩
      obtain ⟨A1, c1, rfl, i1⟩ := o1.ints HRG.out
      have gln : (l.length : Int) = zs.length := by rw [GL.out]
      rw [GL.out]
      clear o1 gln
      go_wp2
      go_loopw [10, 11] (fun lf i wr => ∃ k : Nat, k ≤ zs.length ∧ i = .int .i64 k ∧ lf = .int .i64 (total - LM.tot (l.take k)) ∧ ∃ n, wr = w1.drewN n) (fun _ i _ => zs.length - (intOf i).toNat)
      case atStart => exact ⟨0, by omega, rfl, by simp [LM.tot], 0, rfl⟩
      case round =>
        obtain ⟨k, hk, rfl, rfl, n, rfl⟩ := hrel
        have tl0 : 0 ≤ LM.tot (l.take k) := SM.tot_nonneg' _ (fun i hi => by
          have hi' : i < k ∧ i < l.length := by rw [List.length_take] at hi; omega
          rw [show (l.take k).getD i 0 = l.getD i 0 by simp [List.getD, hi'.1]]
          exact GLO.out i (by rw [← GL.out]; exact hi'.2))
        have tl1 : LM.tot (l.take k) ≤ LM.tot l := SM.elem_take_le l k (fun i hi => GLO.out i (by rw [← GL.out]; exact hi))
        have tsum := GS.out
        by_cases hlt : k < zs.length
        · have tl2 : LM.tot (l.take (k + 1)) ≤ LM.tot l := SM.elem_take_le l (k + 1) (fun i hi => GLO.out i (by rw [← GL.out]; exact hi))
          have HTS := Lib.hid (LM.tot_take_succ l k (by rw [GL.out]; exact hlt))
          rw [HTS.out] at tl2
          obtain ⟨b, off, x, rfl, hb, hcell, HX, x1, x2⟩ := i1.get (k := k) (by rw [GL.out]; exact hlt)
          obtain ⟨ba, offa, y, rfl, hba, hcella, HY, y1, y2⟩ := (hA.below b1).get hlt
          obtain ⟨bc, offc, u, rfl, hbc, hcellc, HU, u1, u2⟩ := (hC.below b1).get (k := k) (by rw [HCL.out]; exact hlt)
          have g1 := GLO.out k hlt
          have g2 := GC.out k hlt
          have g3 := GN.out k hlt
          have y0 := (SM.allR_get (SM.wOk_parts HW.out).1 hlt).1
          rw [HX.out] at g1 g2 g3 HTS tl2
          rw [HU.out] at g2
          rw [HY.out] at g3 y0
          have g4 : 0 < rest → 0 < y → x = u := fun a b => by rw [← HX.out, ← HU.out]; exact GR.out a k hlt (by rw [HY.out]; exact b)
          have f1 : decide (x < 0) = false := by simp; omega
          have f2 : decide (u < x) = false := by simp; omega
          have hle2 : LM.tot l ≤ total := by omega
          have f3 : decide (total - LM.tot (l.take k) < x) = false := by simp; omega
          clear tsum
          generalize LM.tot (l.take k) = T at *
          have e1 : wrap64 (total - T) = total - T := IntWalk.wrap64_in _ (by omega)
          by_cases c1 : 0 < x
          · have f4 : decide (0 < x) = true := by simpa using c1
            have yp : 0 < y := by
              rcases Int.lt_or_eq_of_le y0 with h | h
              · exact h
              · have := g3 h.symm; omega
            have f5 : (y == 0) = false := by simp; omega
            have f6 : decide (0 < y) = true := by simpa using yp
            by_cases c2 : 0 < rest
            · have f7 : decide (0 < rest) = true := by simpa using c2
              have f8 : decide (x < u) = false := by have := g4 c2 yp; simp; omega
              clear g3 g4
              go_wp2
              go_quiet (fail)
              go_wp2
              go_roundw
              case rel => exact ⟨k + 1, by omega, by go_num, by rw [HTS.out]; go_num, _, rfl⟩
              case measure => simp [intOf]; omega
            · have f7 : decide (0 < rest) = false := by simpa using c2
              clear g3 g4
              go_wp2
              go_quiet (fail)
              go_wp2
              go_roundw
              case rel => exact ⟨k + 1, by omega, by go_num, by rw [HTS.out]; go_num, _, rfl⟩
              case measure => simp [intOf]; omega
          · have f4 : decide (0 < x) = false := by simpa using c1
            by_cases c2 : 0 < rest
            · have f7 : decide (0 < rest) = true := by simpa using c2
              by_cases c3 : 0 < y
              · have f6 : decide (0 < y) = true := by simpa using c3
                have f8 : decide (x < u) = false := by have := g4 c2 c3; simp; omega
                clear g3 g4
                go_wp2
                go_quiet (fail)
                go_wp2
                go_roundw
                case rel => exact ⟨k + 1, by omega, by go_num, by rw [HTS.out]; go_num, _, rfl⟩
                case measure => simp [intOf]; omega
              · have f6 : decide (0 < y) = false := by simpa using c3
                clear g3 g4
                go_wp2
                go_quiet (fail)
                go_wp2
                go_roundw
                case rel => exact ⟨k + 1, by omega, by go_num, by rw [HTS.out]; go_num, _, rfl⟩
                case measure => simp [intOf]; omega
            · have f7 : decide (0 < rest) = false := by simpa using c2
              clear g3 g4
              go_wp2
              go_quiet (fail)
              go_wp2
              go_roundw
              case rel => exact ⟨k + 1, by omega, by go_num, by rw [HTS.out]; go_num, _, rfl⟩
              case measure => simp [intOf]; omega
        · obtain rfl : k = zs.length := by omega
          have et : l.take zs.length = l := List.take_of_length_le (by rw [GL.out]; exact Nat.le_refl _)
          have el : total - LM.tot (l.take zs.length) = rest := by rw [et]; omega
          rw [el]
          clear et el tsum tl0 tl1
          go_wp2_with fail
          refine (goes2_any _).mono ?_
          rintro e w2 ⟨rfl, b2⟩
          go_wp2
          go_ret
          exact ⟨rfl, (below_drewN b1 n).trans (b2.mono b1.size)⟩
    · obtain ⟨n1, n2⟩ := SM.cap_no hE
      rw [n1, n2] at C1
      have hz : (SM.capE total zs caps != 0) = true := by simpa using hE
      have HC1 := Lib.hid C1
      clear C1 n1 n2 hE
      go_enter Try.func12, Try.ntmps12
      go_wp2_with fail
      refine HC1.out.mono ?_
      rintro e w1 ⟨v, rfl, o1, b1⟩
      obtain ⟨A1, c1, rfl, i1⟩ := o1.ints (by simp)
      go_wp2_with fail
      refine (goes2_any _).mono ?_
      rintro e w2 ⟨rfl, b2⟩
      go_wp2
      go_ret
      exact ⟨rfl, b1.trans (b2.mono b1.size)⟩
end Go.Proofs.Ytgpdkidbmfngmaa.shareRoom
