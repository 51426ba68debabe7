/- Put together: PosS. -/
import Derived.Test.YtdhkflmodcgooaaBun10
import Derived.Test.YtdhkflmodcgooaaBun6
/- Contracts of layer 15's reference: Check. -/
namespace Go.Proofs.Ytdhkflmodcgooaa
open Go.RowKit Go.Recs
set_option linter.unusedVariables false
set_option linter.unusedSimpArgs false
theorem quietly15 {P : Program} {f : FuncId} {args : Array Value} {w : World} {n : Nat} {v : Value}
    (h : Calls P f args (w.drewN n) fun e w' => e = .returned v ∧ w' = w.drewN n) : Calls P f args (w.drewN n) fun e w' => e = .returned v ∧ ∃ m, w' = w.drewN m :=
  h.mono fun e w' ⟨h1, h2⟩ => ⟨h1, n, h2⟩
set_option maxHeartbeats 8000000 in
set_option maxRecDepth 100000 in
theorem rcheck15_any (A : Option Addr) (l : List PO.Pos) (n cap : Nat) (hn : n = l.length) (w : World) (hI : Poss w A l) :
    Calls Try.prog 18 #[.slice A n cap] w fun e w' => e = .returned (.int .i64 (PO.checkE l)) ∧ Below w.heap.size w w' := by
  subst hn
  have hlen := hI.len
  have HI := Lib.hid hI
  have KL := Lib.hid (@PO.check_long l); have KO := Lib.hid (@PO.check_ok l); have KA := Lib.hid (fun h k => @PO.check_at l h k)
  have C1 := Lib.hid (fun a b ww => rcmp10_any a b ww); have C2 := Lib.hid (fun a ww => rlots15_any a ww)
  generalize PO.checkE l = r at *
  clear hI
  by_cases hl : 128 < l.length
  · have HR := Lib.hid (KL.out hl)
    have hl' : (128 : Int) < (l.length : Int) := by omega
    clear hl
    go_enter Try.func18, Try.ntmps18
    go_wp2_with fail
    go_ret
    exact ⟨by rw [HR.out] <;> rfl, Below.refl _ _⟩
  have HL := Lib.hid hl
  have hl' : ¬ (128 : Int) < (l.length : Int) := by omega
  have hl2 : l.length ≤ 128 := by omega
  clear hl
  go_enter Try.func18, Try.ntmps18
  go_wp2_with fail
  go_loopw [3] (fun i wr => ∃ k : Nat, k ≤ l.length ∧ i = .int .i64 (k : Int) ∧ Hid (∀ j, j < k → PO.eAt l j = 0) ∧ Hid (Below w.heap.size w wr)) (fun i _ => l.length - (intOf i).toNat)
  case atStart => exact ⟨0, by omega, rfl, Lib.hid (fun j h => by omega), Lib.hid (Below.refl _ _)⟩
  case round =>
    obtain ⟨k, hk, rfl, HE, HB⟩ := hrel
    by_cases hlt : k < l.length
    · obtain ⟨b, off, x, rfl, hb, HV, q, d0, d1, d2, d3, d4, d5⟩ := poss_get (HI.out.below HB.out) hlt
      clear q
      rcases Nat.eq_zero_or_pos k with h0 | h0
      · have hk1 : decide (0 < k) = false := by simp [h0]
        have hk2 : ¬ (0 : Int) < (k : Int) := by omega
        have HEL : Hid (PO.eAt l k = if PO.lotsB x.lo x.sh = true then 0 else 18) := Lib.hid (by rw [eAt_lots (fun h => by omega), HV.out])
        clear h0
        go_wp2_with fail
        go_quiet (fail)
        go_wp2_with fail
        have HB2 := Lib.hid (below_drewN HB.out nq)
        have x4 : (wr.drewN nq).cell? ⟨b, off + k * 6 + 4, none⟩ = some (.int .i64 x.lo) := d4
        have x5 : (wr.drewN nq).cell? ⟨b, off + k * 6 + 5, none⟩ = some (.int .i64 x.sh) := d5
        clear d0 d1 d2 d3 d4 d5 HB
        generalize wr.drewN nq = w2 at *
        have H18 : Hid ((PO.okL x.lo = false ∨ PO.okL x.sh = false ∨ x.lo + x.sh = 0) → r = 18) := Lib.hid (fun h => by
          have e : PO.eAt l (k) = 18 := by rw [HEL.out, if_neg]; unfold PO.lotsB; rcases h with h | h | h <;> simp [h]; rw [PO.okL_iff, PO.okL_iff]; omega
          rw [KA.out HL.out (k) hlt HE.out (by rw [e]; decide), e])
        have H0 : Hid (PO.okL x.lo = true → PO.okL x.sh = true → ¬ x.lo + x.sh = 0 → PO.eAt l (k) = 0) := Lib.hid (fun h1 h2 h3 => by
          have := PO.okL_iff.1 h1
          have := PO.okL_iff.1 h2
          rw [HEL.out, if_pos]; unfold PO.lotsB; rw [h1, h2]; simp; omega)
        have hb1 : Hid (PO.okL x.lo = true → 0 ≤ x.lo ∧ x.lo ≤ 1048576) := Lib.hid (fun h => PO.okL_iff.1 h)
        have hb2 : Hid (PO.okL x.sh = true → 0 ≤ x.sh ∧ x.sh ≤ 1048576) := Lib.hid (fun h => PO.okL_iff.1 h)
        have CL1 := Lib.hid (fun ww => C2.out x.lo ww)
        have CL2 := Lib.hid (fun ww => C2.out x.sh ww)
        generalize PO.okL x.lo = b1 at *
        generalize PO.okL x.sh = b2 at *
        clear HEL
        cases b1
        · have HR := Lib.hid (H18.out (.inl rfl))
          clear H18 H0
          go_quiet ((go_at_call 50; exact quietly15 (CL1.out _)))
          go_wp2_with fail
          go_ret
          exact ⟨by rw [HR.out] <;> rfl, by first | exact below_drewN HB2.out _ | exact HB2.out.drew | exact HB2.out⟩
        · cases b2
          · have HR := Lib.hid (H18.out (.inr (.inl rfl)))
            clear H18 H0
            go_quiet ((go_at_call 50; first | exact quietly15 (CL1.out _) | exact quietly15 (CL2.out _)))
            go_wp2_with fail
            go_ret
            exact ⟨by rw [HR.out] <;> rfl, by first | exact below_drewN HB2.out _ | exact HB2.out.drew | exact HB2.out⟩
          · obtain ⟨l0, l1⟩ := hb1.out rfl
            obtain ⟨m0, m1⟩ := hb2.out rfl
            by_cases hz : x.lo + x.sh = 0
            · have HR := Lib.hid (H18.out (.inr (.inr hz)))
              have hz2 : (x.lo + x.sh == 0) = true := beq_t hz
              clear H18 H0 hz
              go_quiet ((go_at_call 50; first | exact quietly15 (CL1.out _) | exact quietly15 (CL2.out _)))
              go_wp2_with fail
              go_ret
              exact ⟨by rw [HR.out] <;> rfl, by first | exact below_drewN HB2.out _ | exact HB2.out.drew | exact HB2.out⟩
            · have HR := Lib.hid (H0.out rfl rfl hz)
              have hz2 : (x.lo + x.sh == 0) = false := by simp; omega
              have HE2 : Hid (∀ i, i < k + 1 → PO.eAt l i = 0) := Lib.hid (fun i hi => by
                rcases Nat.lt_or_ge i (k) with g | g
                · exact HE.out i g
                · obtain rfl : i = k := by omega
                  exact HR.out)
              clear H18 H0 hz
              go_quiet ((go_at_call 50; first | exact quietly15 (CL1.out _) | exact quietly15 (CL2.out _)))
              go_wp2_with fail
              go_roundw
              case rel => exact ⟨k + 1, by omega, by go_num, HE2, Lib.hid (by first | exact below_drewN HB2.out _ | exact HB2.out.drew | exact HB2.out)⟩
              case measure => simp [intOf]; omega
      · obtain ⟨j, rfl⟩ : ∃ j, k = j + 1 := ⟨k - 1, by omega⟩
        obtain ⟨b', off', y, he, hb', HVy, qy, g0, g1, g2, g3, g4, g5⟩ := poss_get (HI.out.below HB.out) (k := j) (by omega)
        injection he with he
        injection he with e1 e2
        subst e1 e2
        have C4 := Lib.hid (fun ww => C1.out y.ser x.ser ww)
        have HSF : Hid (∀ ww, Below wr.heap.size wr ww → ((ww.cell? ⟨b, off + j * 6, none⟩ = some (.string y.ser.prod) ∧ ww.cell? ⟨b, off + j * 6 + 1, none⟩ = some (.int .i64 y.ser.kind) ∧ ww.cell? ⟨b, off + j * 6 + 2, none⟩ = some (.int .i64 y.ser.expiry) ∧ ww.cell? ⟨b, off + j * 6 + 3, none⟩ = some (.int .i64 y.ser.strike)) ∧
            (ww.cell? ⟨b, off + (j + 1) * 6, none⟩ = some (.string x.ser.prod) ∧ ww.cell? ⟨b, off + (j + 1) * 6 + 1, none⟩ = some (.int .i64 x.ser.kind) ∧ ww.cell? ⟨b, off + (j + 1) * 6 + 2, none⟩ = some (.int .i64 x.ser.expiry) ∧ ww.cell? ⟨b, off + (j + 1) * 6 + 3, none⟩ = some (.int .i64 x.ser.strike)) ∧ (ww.cell? ⟨b, off + (j + 1) * 6 + 4, none⟩ = some (.int .i64 x.lo) ∧ ww.cell? ⟨b, off + (j + 1) * 6 + 5, none⟩ = some (.int .i64 x.sh)))) := Lib.hid (fun ww h => by
          have hd := fun o => h.cell (p := ⟨b, o, none⟩) hb
          exact ⟨⟨(hd _).trans g0, (hd _).trans g1, (hd _).trans g2, (hd _).trans g3⟩, ⟨(hd _).trans d0, (hd _).trans d1, (hd _).trans d2, (hd _).trans d3⟩, (hd _).trans d4, (hd _).trans d5⟩)
        have hwj : IntKind.i64.wrap ((j : Int) + 1 - 1) = (j : Int) := by rw [show (j : Int) + 1 - 1 = (j : Int) by omega]; exact IntWalk.i64_in _ (by omega)
        have hwj2 : (0 : Int) < (j : Int) + 1 := by omega
        have hjl : j < l.length := by omega
        have hwj3 : IntKind.i64.wrap (j : Int) = (j : Int) := IntWalk.i64_in _ (by omega)
        have hj0 : (0 : Int) ≤ (j : Int) := by omega
        have hj1 : (j : Int) < (l.length : Int) := by omega
        have hj2 : (j : Int) ≤ (l.length : Int) := by omega
        have hj3 : (0 : Int) ≤ (j : Int) + 1 := by omega
        have hj4 : (j : Int) + 1 < (l.length : Int) := by omega
        have hj5 : (j : Int) + 1 ≤ (l.length : Int) := by omega
        have hjn : ((j : Int) + 1).toNat = j + 1 := by omega
        have HBw : Hid (Below wr.heap.size wr wr.drew) := Lib.hid (Below.refl _ _).drew
        clear qy h0 hb'
        by_cases hc : EM.cmp y.ser x.ser < 0
        · have HEL : Hid (PO.eAt l (j + 1) = if PO.lotsB x.lo x.sh = true then 0 else 18) := Lib.hid (by rw [eAt_lots (fun _ => by rw [show j + 1 - 1 = j from rfl, HVy.out, HV.out]; exact hc), HV.out])
          have hcm : ¬ 0 ≤ EM.cmp y.ser x.ser := by omega
          generalize EM.cmp y.ser x.ser = cm at *
          go_wp2_with fail
          go_region_held3 (fun ww => ((ww.cell? ⟨b, off + j * 6, none⟩ = some (.string y.ser.prod) ∧ ww.cell? ⟨b, off + j * 6 + 1, none⟩ = some (.int .i64 y.ser.kind) ∧ ww.cell? ⟨b, off + j * 6 + 2, none⟩ = some (.int .i64 y.ser.expiry) ∧ ww.cell? ⟨b, off + j * 6 + 3, none⟩ = some (.int .i64 y.ser.strike)) ∧
            (ww.cell? ⟨b, off + (j + 1) * 6, none⟩ = some (.string x.ser.prod) ∧ ww.cell? ⟨b, off + (j + 1) * 6 + 1, none⟩ = some (.int .i64 x.ser.kind) ∧ ww.cell? ⟨b, off + (j + 1) * 6 + 2, none⟩ = some (.int .i64 x.ser.expiry) ∧ ww.cell? ⟨b, off + (j + 1) * 6 + 3, none⟩ = some (.int .i64 x.ser.strike)) ∧ (ww.cell? ⟨b, off + (j + 1) * 6 + 4, none⟩ = some (.int .i64 x.lo) ∧ ww.cell? ⟨b, off + (j + 1) * 6 + 5, none⟩ = some (.int .i64 x.sh))))
            (with_reducible exact HSF.out _ HBw.out)
            ((go_at_call 49; refine (C4.out _).mono ?_; rintro e w5 ⟨rfl, b5⟩; replace HBw := Lib.hid (HBw.out.trans (b5.mono HBw.out.size)); clear b5))
          all_goals (
            have HB2 := Lib.hid (HB.out.trans (HBw.out.mono HB.out.size))
            obtain ⟨_, _, x4, x5⟩ := HSF.out _ HBw.out
            clear HSF HBw d0 d1 d2 d3 d4 d5 g0 g1 g2 g3 g4 g5
            go_wp2_with fail
            have H18 : Hid ((PO.okL x.lo = false ∨ PO.okL x.sh = false ∨ x.lo + x.sh = 0) → r = 18) := Lib.hid (fun h => by
              have e : PO.eAt l (j + 1) = 18 := by rw [HEL.out, if_neg]; unfold PO.lotsB; rcases h with h | h | h <;> simp [h]; rw [PO.okL_iff, PO.okL_iff]; omega
              rw [KA.out HL.out (j + 1) hlt HE.out (by rw [e]; decide), e])
            have H0 : Hid (PO.okL x.lo = true → PO.okL x.sh = true → ¬ x.lo + x.sh = 0 → PO.eAt l (j + 1) = 0) := Lib.hid (fun h1 h2 h3 => by
              have := PO.okL_iff.1 h1
              have := PO.okL_iff.1 h2
              rw [HEL.out, if_pos]; unfold PO.lotsB; rw [h1, h2]; simp; omega)
            have hb1 : Hid (PO.okL x.lo = true → 0 ≤ x.lo ∧ x.lo ≤ 1048576) := Lib.hid (fun h => PO.okL_iff.1 h)
            have hb2 : Hid (PO.okL x.sh = true → 0 ≤ x.sh ∧ x.sh ≤ 1048576) := Lib.hid (fun h => PO.okL_iff.1 h)
            have CL1 := Lib.hid (fun ww => C2.out x.lo ww)
            have CL2 := Lib.hid (fun ww => C2.out x.sh ww)
            generalize PO.okL x.lo = b1 at *
            generalize PO.okL x.sh = b2 at *
            clear HEL
            cases b1
            · have HR := Lib.hid (H18.out (.inl rfl))
              clear H18 H0
              go_quiet ((go_at_call 50; exact quietly15 (CL1.out _)))
              go_wp2_with fail
              go_ret
              exact ⟨by rw [HR.out] <;> rfl, by first | exact below_drewN HB2.out _ | exact HB2.out.drew | exact HB2.out⟩
            · cases b2
              · have HR := Lib.hid (H18.out (.inr (.inl rfl)))
                clear H18 H0
                go_quiet ((go_at_call 50; first | exact quietly15 (CL1.out _) | exact quietly15 (CL2.out _)))
                go_wp2_with fail
                go_ret
                exact ⟨by rw [HR.out] <;> rfl, by first | exact below_drewN HB2.out _ | exact HB2.out.drew | exact HB2.out⟩
              · obtain ⟨l0, l1⟩ := hb1.out rfl
                obtain ⟨m0, m1⟩ := hb2.out rfl
                by_cases hz : x.lo + x.sh = 0
                · have HR := Lib.hid (H18.out (.inr (.inr hz)))
                  have hz2 : (x.lo + x.sh == 0) = true := beq_t hz
                  clear H18 H0 hz
                  go_quiet ((go_at_call 50; first | exact quietly15 (CL1.out _) | exact quietly15 (CL2.out _)))
                  go_wp2_with fail
                  go_ret
                  exact ⟨by rw [HR.out] <;> rfl, by first | exact below_drewN HB2.out _ | exact HB2.out.drew | exact HB2.out⟩
                · have HR := Lib.hid (H0.out rfl rfl hz)
                  have hz2 : (x.lo + x.sh == 0) = false := by simp; omega
                  have HE2 : Hid (∀ i, i < j + 1 + 1 → PO.eAt l i = 0) := Lib.hid (fun i hi => by
                    rcases Nat.lt_or_ge i (j + 1) with g | g
                    · exact HE.out i g
                    · obtain rfl : i = j + 1 := by omega
                      exact HR.out)
                  clear H18 H0 hz
                  go_quiet ((go_at_call 50; first | exact quietly15 (CL1.out _) | exact quietly15 (CL2.out _)))
                  go_wp2_with fail
                  go_roundw
                  case rel => exact ⟨j + 1 + 1, by omega, by go_num, HE2, Lib.hid (by first | exact below_drewN HB2.out _ | exact HB2.out.drew | exact HB2.out)⟩
                  case measure => simp [intOf]; omega)
        · have HR : Hid (r = 19) := Lib.hid (by rw [KA.out HL.out (j + 1) hlt HE.out (by rw [eAt_bad (by omega) (by rw [show j + 1 - 1 = j from rfl, HVy.out, HV.out]; exact hc)]; simp), eAt_bad (by omega) (by rw [show j + 1 - 1 = j from rfl, HVy.out, HV.out]; exact hc)])
          have hcm : 0 ≤ EM.cmp y.ser x.ser := by omega
          generalize EM.cmp y.ser x.ser = cm at *
          go_wp2_with fail
          go_region_held3 (fun ww => ((ww.cell? ⟨b, off + j * 6, none⟩ = some (.string y.ser.prod) ∧ ww.cell? ⟨b, off + j * 6 + 1, none⟩ = some (.int .i64 y.ser.kind) ∧ ww.cell? ⟨b, off + j * 6 + 2, none⟩ = some (.int .i64 y.ser.expiry) ∧ ww.cell? ⟨b, off + j * 6 + 3, none⟩ = some (.int .i64 y.ser.strike)) ∧
            (ww.cell? ⟨b, off + (j + 1) * 6, none⟩ = some (.string x.ser.prod) ∧ ww.cell? ⟨b, off + (j + 1) * 6 + 1, none⟩ = some (.int .i64 x.ser.kind) ∧ ww.cell? ⟨b, off + (j + 1) * 6 + 2, none⟩ = some (.int .i64 x.ser.expiry) ∧ ww.cell? ⟨b, off + (j + 1) * 6 + 3, none⟩ = some (.int .i64 x.ser.strike)) ∧ (ww.cell? ⟨b, off + (j + 1) * 6 + 4, none⟩ = some (.int .i64 x.lo) ∧ ww.cell? ⟨b, off + (j + 1) * 6 + 5, none⟩ = some (.int .i64 x.sh))))
            (with_reducible exact HSF.out _ HBw.out)
            ((go_at_call 49; refine (C4.out _).mono ?_; rintro e w5 ⟨rfl, b5⟩; replace HBw := Lib.hid (HBw.out.trans (b5.mono HBw.out.size)); clear b5))
          all_goals (
            have HB2 := Lib.hid (HB.out.trans (HBw.out.mono HB.out.size))
            clear HSF HBw d0 d1 d2 d3 d4 d5 g0 g1 g2 g3 g4 g5
            go_wp2_with fail
            go_ret
            exact ⟨by rw [HR.out] <;> rfl, HB2.out⟩)
    · obtain rfl : k = l.length := by omega
      have HR := Lib.hid (KO.out HL.out HE.out)
      go_wp2_with fail
      go_ret
      exact ⟨by rw [HR.out] <;> rfl, HB.out⟩
end Go.Proofs.Ytdhkflmodcgooaa
