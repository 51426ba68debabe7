import Derived.Test.YtgpdkidbmfngmaaShareJ
import Derived.Test.YtgpdkidbmfngmaaLawMath
namespace Go.Proofs.Ytgpdkidbmfngmaa.shareBack
open Go.RowKit
set_option linter.unusedVariables false

theorem back_facts (n : Int) (p : List Int) (ha : SM.allR p = true) (hl : p.length ≤ 1024) (n0 : 0 ≤ n) (n1 : n ≤ 1152921504606846976) :
    ∃ (bl : List Int) (left : Int) (rk : Nat → Int),
      (∀ (W : World) (A1 : Option Addr) (c1 : Nat), Ints W A1 p → Calls Try.prog 41 #[.int .i64 n, .slice A1 p.length c1] W fun e w' =>
        ∃ v, e = .returned (.tuple #[v, .int .i64 left, .int .i64 0]) ∧ Own w' W.heap.size v bl ∧ Below W.heap.size W w') ∧
      bl.length = p.length ∧ left = n - min n (LM.tot p) ∧ LM.tot bl = n - left ∧ SM.allR bl = true ∧
      (∀ k, k < p.length → bl.getD (p.length - (k + 1)) 0 = min (p.getD (p.length - (k + 1)) 0) (rk k)) ∧
      (∀ k, k < p.length → rk (k + 1) = rk k - min (p.getD (p.length - (k + 1)) 0) (rk k)) ∧ (∀ k, k ≤ p.length → 0 ≤ rk k) := by
  have hpe : SM.rowE n p = 0 := by
    unfold SM.rowE
    rw [SM.inR_true.2 ⟨n0, n1⟩, ha]
    simp; omega
  refine ⟨SM.bk p n, SM.rk p.reverse n p.length, SM.rk p.reverse n, ?_, SM.bk_len p n, SM.bk_rest ha n0, SM.bk_tot, SM.bk_allR ha n0 n1, fun k hk => SM.bk_get p n k hk, fun k hk => ?_, fun k hk => (SM.rk_range (by rw [SM.allR_reverse]; exact ha) n0 k (by simpa using hk)).1⟩
  · intro W A1 c1 h
    have C := back_any n A1 p c1 W h
    rw [hpe, (SM.fill_yes hpe).2.2.1, (SM.fill_yes hpe).2.2.2] at C
    exact C
  · rw [← SM.rev_get p k hk]
    rfl

set_option maxHeartbeats 4000000 in
set_option maxRecDepth 100000 in
theorem walk (total : Int) (A : Option Addr) (ca : Nat) (zs : List Int) (n : Int) (w : World) (w0 : -9223372036854775808 ≤ total ∧ total ≤ 9223372036854775807) (hA : Ints w A zs) (w2 : -9223372036854775808 ≤ n ∧ n ≤ 9223372036854775807) :
    Calls Try.prog 13 #[.int .i64 total, .slice A zs.length ca, .int .i64 n] w fun e w' => e = .returned (.bool true) ∧ Below w.heap.size w w' := by
  have hlA := hA.len
  clear w0 w2
  by_cases hl : 200 < zs.length
  · go_enter Try.func13, Try.ntmps13
    go_wp2_with fail
    refine (goes2_any _).mono ?_
    rintro e w1 ⟨rfl, b1⟩
    go_wp2
    go_ret
    exact ⟨rfl, b1⟩
  · have C1 := fill_any total A zs ca w hA
    by_cases hE : SM.rowE total zs = 0
    · obtain ⟨h1, hr, hl2⟩ := SM.rowE_ok hE
      obtain ⟨t0, t1⟩ := SM.inR_true.1 h1
      rw [hE, (SM.fill_yes hE).1, (SM.fill_yes hE).2.1] at C1
      have hpl := SM.fl_len zs total
      have hpa := fl_allR hr t0 t1
      have hpt := @SM.fl_tot zs total
      obtain ⟨r0, r1⟩ := SM.rk_range hr t0 zs.length (Nat.le_refl _)
      generalize SM.fl zs total = p at *
      generalize SM.rk zs total zs.length = rest at *
      -- Back of all that was paid
      have hpe : SM.rowE (total - rest) p = 0 := by
        unfold SM.rowE
        rw [SM.inR_true.2 ⟨by omega, by omega⟩, hpa, hpl]
        simp; omega
      have CB := fun (W : World) (A1 : Option Addr) (c1 : Nat) (h : Ints W A1 p) => back_any (total - rest) A1 p c1 W h
      rw [hpe, (SM.fill_yes hpe).2.2.1, (SM.fill_yes hpe).2.2.2, ← hpt, (SM.bk_all hpa).1, (SM.bk_all hpa).2, hpt] at CB
      have CS := fun (W : World) (A1 : Option Addr) (c1 : Nat) (h : Ints W A1 p) => rsum2_any A1 p c1 W h hpa (by omega)
      rw [hpt] at CS
      rw [hpl] at CB CS
      have bf := fun n0 n1 => back_facts n p hpa (by omega) n0 n1
      rw [hpt] at bf
      have HBF := Lib.hid bf
      clear bf
      have HC1 := Lib.hid C1; have HPL := Lib.hid hpl; have HPA := Lib.hid hpa; have HCB := Lib.hid CB; have HCS := Lib.hid CS; have HPT := Lib.hid hpt
      have hrp := range_of hpa
      have HRP := Lib.hid hrp
      clear C1 hpl hpa CB CS hpt hE h1 hr hpe hrp
      go_enter Try.func13, Try.ntmps13
      go_wp2_with fail
      refine HC1.out.mono ?_
      rintro e w1 ⟨v, rfl, o1, b1⟩
      obtain ⟨A1, c1, rfl, i1⟩ := o1.ints HRP.out
      clear o1
      rw [HPL.out]
      go_wp2_with fail
      refine (HCS.out _ _ _ i1).mono ?_
      rintro e w2 ⟨rfl, rfl⟩
      go_wp2_with fail
      refine (HCB.out _ _ _ i1).mono ?_
      rintro e w2 ⟨v2, rfl, o2, b2⟩
      obtain ⟨A2, c2, rfl, i2⟩ := o2.ints HRP.out
      clear o2
      have i1 := i1.below b2
      have b2 := b1.trans (b2.mono b1.size)
      clear b1
      have CSA := same_any A2 A1 p c2 c1 w2 i2 i1
      rw [HPL.out] at CSA ⊢
      have HCSA := Lib.hid CSA
      clear CSA
      go_wp2_with fail
      refine HCSA.out.mono ?_
      rintro e w3 ⟨rfl, m1, rfl⟩
      have i1 := i1.drewN m1
      have b3 := below_drewN b2 m1
      clear b2 i2 HCSA
      generalize hw3 : w2.drewN m1 = w3 at *
      clear hw3
      by_cases hn : 0 ≤ n ∧ n ≤ 1152921504606846976
      · obtain ⟨n0, n1⟩ := hn
        obtain ⟨bl, left, rk, bc, bll, ble, blt, bla, blg, rks, rkn⟩ := HBF.out n0 n1
        have HBLG := Lib.hid blg; have HRKS := Lib.hid rks; have HRKN := Lib.hid rkn; have HBLL := Lib.hid bll; have HBLT := Lib.hid blt; have HBLA := Lib.hid bla
        have CB := bc w3 A1 c1 i1
        rw [HPL.out] at CB
        have HCB2 := Lib.hid CB
        clear bc bll blt bla blg rks rkn CB
        have c0 : decide (n < 0) = false := by simp; omega
        have c2 : decide (1152921504606846976 < n) = false := by simp; omega
        go_wp2_with fail
        refine HCB2.out.mono ?_
        rintro e w4 ⟨v3, rfl, o3, b4⟩
        obtain ⟨A3, c3, rfl, i3⟩ := o3.ints (range_of HBLA.out)
        clear o3
        have i1 := i1.below b4
        have b5 := b3.trans (b4.mono b3.size)
        clear b3 b4
        rw [HBLL.out, HPL.out]
        go_wp2_with fail
        all_goals (
          have CS2 := rsum2_any A3 bl c3 w4 i3 HBLA.out (by rw [HBLT.out]; omega)
          rw [HBLT.out, HBLL.out, HPL.out] at CS2
          have HCS2 := Lib.hid CS2
          clear CS2
          refine HCS2.out.mono ?_
          rintro e w5 ⟨rfl, rfl⟩
          go_wp2
          go_loopw [13, 14] (fun g i wr => ∃ (k : Nat) (g' : Bool), k ≤ zs.length ∧ g = .bool g' ∧ i = .int .i64 ((zs.length : Int) - 1 - (k : Int)) ∧ Hid (g' = false → rk k = 0) ∧ ∃ n, wr = w4.drewN n) (fun _ i _ => (intOf i + 1).toNat)
          case atStart => exact ⟨0, true, by omega, rfl, by go_num, Lib.hid (fun h => by simp at h), 0, rfl⟩
          case round =>
            obtain ⟨k, g, hk, rfl, rfl, HG, m, rfl⟩ := hrel
            by_cases hlt : k < zs.length
            · obtain ⟨j, hj⟩ : ∃ j : Nat, j = zs.length - (k + 1) := ⟨_, rfl⟩
              have hj2 : (zs.length : Int) - 1 - (k : Int) = (j : Int) := by omega
              have hjl : j < zs.length := by omega
              rw [hj2]
              obtain ⟨b, off, x, rfl, hb, hcell, HX, x1, x2⟩ := i3.get (k := j) (by rw [HBLL.out, HPL.out]; exact hjl)
              obtain ⟨ba, offa, y, rfl, hba, hcella, HY, y1, y2⟩ := i1.get (k := j) (by rw [HPL.out]; exact hjl)
              have e1 := HBLG.out k (by rw [HPL.out]; exact hlt)
              have e2 := HRKS.out k (by rw [HPL.out]; exact hlt)
              have e3 := HRKN.out k (by rw [HPL.out]; exact hk)
              have e4 := (SM.allR_get HPA.out (k := j) (by rw [HPL.out]; exact hjl)).1
              rw [HPL.out, ← hj, HX.out, HY.out] at e1
              rw [HPL.out, ← hj, HY.out] at e2
              rw [HY.out] at e4
              have x0 : 0 ≤ x := by omega
              have xy : x ≤ y := by omega
              have f1 : decide (x < 0) = false := by simp; omega
              have f2 : decide (y < x) = false := by simp; omega
              have HR1 : Hid ((x == y) = false → rk (k + 1) = 0) := Lib.hid (fun h => by
                have h' : x ≠ y := by simpa using h
                omega)
              have HR2 : Hid (rk k = 0 → rk (k + 1) = 0) := Lib.hid (fun h => by omega)
              have HR3 : Hid (rk k = 0 → x = 0) := Lib.hid (fun h => by omega)
              have HJ : Hid ((zs.length : Int) - 1 - ((k + 1 : Nat) : Int) = (j : Int) - 1) := Lib.hid (by omega)
              clear e1 e2 e3 hj hj2
              cases g with
              | true =>
                by_cases c4 : 0 < x
                · have f3 : decide (0 < x) = true := by simpa using c4
                  go_wp2
                  go_quiet (fail)
                  go_wp2
                  go_quiet (fail)
                  go_wp2
                  go_roundw
                  case rel => exact ⟨k + 1, (x == y), by omega, rfl, by rw [HJ.out], HR1, _, rfl⟩
                  case measure => simp [intOf]
                · have f3 : decide (0 < x) = false := by simpa using c4
                  go_wp2
                  go_quiet (fail)
                  go_wp2
                  go_quiet (fail)
                  go_wp2
                  go_roundw
                  case rel => exact ⟨k + 1, (x == y), by omega, rfl, by rw [HJ.out], HR1, _, rfl⟩
                  case measure => simp [intOf]
              | false =>
                have hk0 := HG.out rfl
                have x3 := HR3.out hk0
                have f3 : decide (0 < x) = false := by simp; omega
                have HR4 := Lib.hid (HR2.out hk0)
                clear x3 hk0
                go_wp2
                go_quiet (fail)
                go_wp2
                go_quiet (fail)
                go_wp2
                go_roundw
                case rel => exact ⟨k + 1, false, by omega, rfl, by rw [HJ.out], Lib.hid (fun _ => HR4.out), _, rfl⟩
                case measure => simp [intOf]
            · obtain rfl : k = zs.length := by omega
              have hj2 : (zs.length : Int) - 1 - (zs.length : Int) = -1 := by omega
              rw [hj2]
              go_wp2_with fail
              refine (goes2_any _).mono ?_
              rintro e w5 ⟨rfl, b6⟩
              go_wp2
              go_ret
              exact ⟨rfl, (below_drewN b5 m).trans (b6.mono b5.size)⟩)
      · by_cases hn2 : n < 0
        · go_wp2_with fail
          refine (goes2_any _).mono ?_
          rintro e w4 ⟨rfl, b4⟩
          go_wp2
          go_ret
          exact ⟨rfl, b3.trans (b4.mono b3.size)⟩
        · go_wp2_with fail
          refine (goes2_any _).mono ?_
          rintro e w4 ⟨rfl, b4⟩
          go_wp2
          go_ret
          exact ⟨rfl, b3.trans (b4.mono b3.size)⟩
    · have n1 := (SM.fill_no hE).1
      have n2 := (SM.fill_no hE).2.1
      rw [n1, n2] at C1
      have hz : (SM.rowE total zs != 0) = true := by simpa using hE
      have HC1 := Lib.hid C1
      clear C1 n1 n2 hE
      go_enter Try.func13, Try.ntmps13
      go_wp2_with fail
      refine HC1.out.mono ?_
      rintro e w1 ⟨v, rfl, o1, b1⟩
      obtain ⟨A1, c1, rfl, i1⟩ := o1.ints (by simp)
      go_wp2_with fail
      refine (goes2_any _).mono ?_
      rintro e w2 ⟨rfl, b2⟩
      go_wp2
      go_ret
      exact ⟨rfl, b1.trans (b2.mono b1.size)⟩
end Go.Proofs.Ytgpdkidbmfngmaa.shareBack
