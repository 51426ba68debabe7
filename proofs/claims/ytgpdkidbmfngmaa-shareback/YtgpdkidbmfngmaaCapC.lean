import Derived.Test.YtgpdkidbmfngmaaCapB
namespace Go.Proofs.Ytgpdkidbmfngmaa
open Go.RowKit

theorem ci_bounds {w caps out : List Int} {total left : Int} (h : SM.CI w caps total out left) (hc : SM.allR caps = true) (t1 : total ≤ 1152921504606846976) :
    left ≤ 1152921504606846976 ∧ ∀ i, i < w.length → 0 ≤ out.getD i 0 ∧ out.getD i 0 ≤ 1152921504606846976 := by
  have hv : ∀ i, i < w.length → 0 ≤ out.getD i 0 ∧ out.getD i 0 ≤ 1152921504606846976 := fun i hi => by
    have := SM.allR_get hc (k := i) (by rw [h.caps']; exact hi)
    rcases h.vals i hi with e | e <;> omega
  have := SM.tot_nonneg' out (fun j hj => (hv j (by rw [← h.len]; exact hj)).1)
  have := h.sum
  exact ⟨by omega, hv⟩

set_option maxHeartbeats 1600000 in
theorem capped_ok (total : Int) (A C : Option Addr) (zs caps : List Int) (ca cc : Nat) (w : World) (hA : Ints w A zs) (hC : Ints w C caps) (hE : SM.capE total zs caps = 0) :
    Calls Try.prog 37 #[.int .i64 total, .slice A zs.length ca, .slice C caps.length cc] w fun e w' =>
      ∃ v, e = .returned (.tuple #[v, .int .i64 (SM.capR total zs caps), .int .i64 0]) ∧ Own w' w.heap.size v (SM.capN total zs caps) ∧ Below w.heap.size w w' := by
  obtain ⟨h1, hl, hw, hcl, hca⟩ := SM.capE_ok hE
  obtain ⟨t0, t1⟩ := SM.inR_true.1 h1
  obtain ⟨s1, s2⟩ := SM.sN_ok hw hl
  obtain ⟨y1, y2⟩ := SM.cap_yes hE
  rw [y1, y2]
  clear y1 y2 hE
  have hmk := make_ints zs.length (by omega)
  have HW := Lib.hid hw
  have HCA := Lib.hid hca
  have HCL := Lib.hid hcl
  have HCI := Lib.hid (SM.CI.start hcl t0)
  obtain ⟨R, hR⟩ : ∃ R, SM.capRun zs caps (zs.length + 1) (List.replicate zs.length 0) total = R := ⟨_, rfl⟩
  rw [hR]
  have HRR := Lib.hid hR
  have CA := allinrange_any C caps cc w hC
  rw [hcl] at CA ⊢
  have HCA2 := Lib.hid CA
  clear hR hw hcl CA
  go_enter Try.func37, Try.ntmps37
  go_wp2_with (first
    | (go_at_call 52; refine (inrange_any _ _).mono ?_; rintro e w' ⟨rfl, rfl⟩)
    | (go_at_call 53; refine (sumof_any _ _ _ _ hA).mono ?_; rintro e w' ⟨rfl, rfl⟩)
    | (go_at_call 57; refine HCA2.out.mono ?_; rintro e w' ⟨rfl, rfl⟩))
  have hB0 : Below w.heap.size w (w.alloc (.cells (zeros zs.length) 3)) := (Below.refl _ _).alloc (Nat.le_refl _) _
  have hP0 := Row.made w zs.length
  refine (openweights_any _ _ _ _ _ _ _ (hA.below hB0) (hC.below hB0) hl HCL.out).mono ?_
  rintro e w1 ⟨g2, rfl, hg2, hO0, hb1⟩
  have hB1 := hB0.trans (hb1.mono hB0.size)
  have hP1 := hP0.below hb1 (by simp)
  simp only [World.size_alloc] at hg2
  clear hB0 hP0 hb1
  go_wp2
  go_loopw [6, 7] (fun s r wr => ∃ (P : List Int) (left : Int) (f : Nat), s = .slice (some ⟨w.heap.size, 0, none⟩) zs.length zs.length ∧ r = .int .i64 left ∧ Row wr w.heap.size P ∧ Row wr g2 (SM.openOf zs caps P) ∧ SM.CI zs caps total P left ∧ Below w.heap.size w wr ∧
      Hid (SM.capRun zs caps f P left = R) ∧ Hid (SM.cnt (SM.openOf zs caps P) < f)) (fun _ r _ => (intOf r).toNat)
  case atStart =>
    refine ⟨_, total, zs.length + 1, rfl, rfl, hP1, hO0, HCI.out, hB1, HRR, ?_⟩
    have := (SM.cnt_range (SM.openOf zs caps (List.replicate zs.length 0))).2
    rw [SM.openOf_len] at this
    show _ < _
    push_cast; omega
  case round =>
    clear hP1 hO0 hB1
    obtain ⟨P, left, f, rfl, rfl, hP, hO, hCI, hB, HF, HC⟩ := hrel
    have hl0 := hCI.l0
    obtain ⟨hl1, HV⟩ := ci_bounds hCI HCA.out t1
    have HV := Lib.hid HV
    have HCI2 := Lib.hid hCI
    have hPl : P.length = zs.length := hCI.len
    have HPL := Lib.hid hPl
    clear hPl
    by_cases hpos : 0 < left
    · have hok := SM.openOf_ok caps P HW.out
      have hol := SM.openOf_len zs caps P
      have hrg := range_of (SM.wOk_parts hok).1
      have hIO : Ints wr (some ⟨g2, 0, none⟩) (SM.openOf zs caps P) := hO.ints (by rw [hol]; exact hA.1) hrg
      obtain ⟨o1, o2⟩ := SM.sN_ok hok (by rw [hol]; exact hl)
      have CS := sumof_any _ _ zs.length _ hIO
      rw [hol, o1, o2] at CS
      have HCS := Lib.hid CS
      obtain ⟨oa, ob⟩ := SM.wOk_parts hok
      have oc := SM.tot_nonneg oa
      by_cases h0 : LM.tot (SM.openOf zs caps P) = 0
      · have HE := Lib.hid (SM.capRun_shut zs caps f P left h0)
        rw [HF.out] at HE
        clear CS hIO hok hol hrg o1 o2 oa ob oc HF HC hCI
        go_wp2_with (go_at_call 53; refine HCS.out.mono ?_; rintro e w' ⟨rfl, rfl⟩)
        go_ret3
        refine ⟨_, by rw [HE.out]; rfl, ?_, hB⟩
        rw [HE.out]
        have := hP.own (Nat.le_refl _) (by rw [HPL.out]; exact hA.1)
        rw [HPL.out] at this
        exact this
      · have hz : (LM.tot (SM.openOf zs caps P) == 0) = false := by simpa using h0
        have CD := divide2_any left (LM.tot (SM.openOf zs caps P)) _ _ zs.length _ hIO (by rw [hol]; exact hl) oa rfl (by omega) ob (by omega) hl1
        rw [hol] at CD
        have HCD := Lib.hid CD
        have hsum := SM.parts_sum (total := left) hok h0 (by omega)
        have hnn := fun j hj => SM.parts_nonneg (total := left) hok h0 (by omega) j hj
        have hle := fun j hj => SM.parts_le (total := left) hok h0 (by omega) j hj
        have hplen : (SM.parts left (LM.tot (SM.openOf zs caps P)) (SM.openOf zs caps P)).length = zs.length := by rw [SM.parts_len, hol]
        rw [hol] at hnn hle
        cases hov : SM.over (SM.parts left (LM.tot (SM.openOf zs caps P)) (SM.openOf zs caps P)) caps
        · obtain ⟨f', rfl⟩ : ∃ f', f = f' + 1 := ⟨f - 1, by have := (SM.cnt_range (SM.openOf zs caps P)).1; have := HC.out; omega⟩
          have HE := Lib.hid (SM.capRun_last zs caps f' P left hpos h0 hov)
          rw [HF.out] at HE
          have ht := SM.taken_none hov
          have HOUT := Lib.hid (SM.out_none (out := P) hov (by rw [hplen, HPL.out]))
          generalize SM.parts left (LM.tot (SM.openOf zs caps P)) (SM.openOf zs caps P) = l at *
          have HNN := Lib.hid hnn; have HLE := Lib.hid hle; have HSM := Lib.hid hsum; have HPN := Lib.hid hplen
          have HOL := Lib.hid hol
          clear CS CD hIO hok hol hrg o1 o2 oa ob oc hov hCI hnn hle hsum hplen h0
          go_wp2_with (first
            | (go_at_call 53; refine HCS.out.mono ?_; rintro e w' ⟨rfl, rfl⟩)
            | (go_at_call 54; refine HCD.out.mono ?_; rintro e w2 ⟨g3, rfl, hg3, hrow3, hb2⟩))
          have hB2 := hB.trans (hb2.mono hB.size)
          have hlt1 := hP.lt
          have hlt2 := hO.lt
          have hP2 := hP.below hb2 hlt1
          have hO2 := hO.below hb2 hlt2
          refine (takecaps_any C P (SM.openOf zs caps P) l caps w.heap.size g2 g3 zs.length cc w w2 hC hB2 (Nat.le_refl _) (by omega) hP2 hO2 hrow3 (by omega) (by omega) (by omega) HPL.out HOL.out HPN.out HCL.out hl HCA.out HNN.out (by rw [HSM.out]; exact hl1)).mono ?_
          rintro e w3 ⟨rfl, r1, r2, r3⟩
          rw [HOUT.out] at r1
          have r4 := r3.row hrow3 (by intro hs; rcases hs with hs | hs <;> omega)
          have hB3 := hB2.trans (r3.below (by intro b hb; rcases hb with rfl | rfl <;> omega) hB2.size)
          go_wp2_with fail
          refine (takeall_any P l w.heap.size g3 zs.length w3 r1 r4 (by omega) HPL.out HPN.out hl HV.out (fun i hi => ⟨HNN.out i hi, by have := HLE.out i hi; omega⟩)).mono ?_
          rintro e w4 ⟨rfl, q1, q2⟩
          have hB4 := hB3.trans (q2.below (by intro b hb; omega) hB3.size)
          go_wp2
          go_ret3
          refine ⟨_, by rw [HE.out]; rfl, ?_, hB4⟩
          rw [HE.out]
          have hal : (SM.addL P l).length = zs.length := by unfold SM.addL; rw [SM.tab_len, HPL.out]
          have := q1.own (Nat.le_refl _) (by rw [hal]; exact hA.1)
          rw [hal] at this
          exact this
        · obtain ⟨f', rfl⟩ : ∃ f', f = f' + 1 := ⟨f - 1, by have := (SM.cnt_range (SM.openOf zs caps P)).1; have := HC.out; omega⟩
          have HE := Lib.hid (SM.capRun_over zs caps f' P left hpos h0 hov)
          rw [HF.out] at HE
          obtain ⟨n1, n2, n3, n4, n5⟩ := hCI.full HW.out HCA.out hpos h0 hov
          have N1 := Lib.hid n1; have N4 := Lib.hid n4; have N5 := Lib.hid n5
          generalize SM.parts left (LM.tot (SM.openOf zs caps P)) (SM.openOf zs caps P) = l at *
          have HNN := Lib.hid hnn; have HSM := Lib.hid hsum; have HPN := Lib.hid hplen
          have HOL := Lib.hid hol
          have hz2 : (SM.capTaken l caps == 0) = false := by simp; omega
          clear CS CD hIO hok hol hrg o1 o2 oa ob oc hov hCI hnn hle hsum hplen h0 n1 n4 n5
          go_wp2_with (first
            | (go_at_call 53; refine HCS.out.mono ?_; rintro e w' ⟨rfl, rfl⟩)
            | (go_at_call 54; refine HCD.out.mono ?_; rintro e w2 ⟨g3, rfl, hg3, hrow3, hb2⟩))
          have hB2 := hB.trans (hb2.mono hB.size)
          have hlt1 := hP.lt
          have hlt2 := hO.lt
          have hP2 := hP.below hb2 hlt1
          have hO2 := hO.below hb2 hlt2
          refine (takecaps_any C P (SM.openOf zs caps P) l caps w.heap.size g2 g3 zs.length cc w w2 hC hB2 (Nat.le_refl _) (by omega) hP2 hO2 hrow3 (by omega) (by omega) (by omega) HPL.out HOL.out HPN.out HCL.out hl HCA.out HNN.out (by rw [HSM.out]; exact hl1)).mono ?_
          rintro e w3 ⟨rfl, r1, r2, r3⟩
          have hB3 := hB2.trans (r3.below (by intro b hb; rcases hb with rfl | rfl <;> omega) hB2.size)
          go_wp2
          go_roundw
          case rel => exact ⟨_, _, f', rfl, rfl, r1, by rw [N5.out]; exact r2, N1.out, hB3, HE.out.symm, by have h1 := N4.out; have h2 := HC.out; show _ < _; push_cast at h2; omega⟩
          case measure => simp [intOf]; omega
    · have HE := Lib.hid (SM.capRun_done zs caps f P left (by omega))
      rw [HF.out] at HE
      clear HF HC hCI
      go_wp2
      go_ret3
      refine ⟨_, by rw [HE.out]; rfl, ?_, hB⟩
      rw [HE.out]
      have := hP.own (Nat.le_refl _) (by rw [HPL.out]; exact hA.1)
      rw [HPL.out] at this
      exact this
end Go.Proofs.Ytgpdkidbmfngmaa
