import Derived.Test.YtgpdkidbmfngmaaCapD
import Derived.Test.YtgpdkidbmfngmaaCapMath2
import Derived.RegionTactic
namespace Go.Proofs.Ytgpdkidbmfngmaa
open Go.RowKit

theorem two_rows {w wr : World} {B g1 g2 k : Nat} {P Q : List Int} (x : Int) (m : Nat) (h1 : Row wr g1 P) (h2 : Row wr g2 Q) (hB : Below B w wr) (e : g1 ≠ g2) (b : B ≤ g2) :
    Row ((wr.drewN m).setCell ⟨g2, k, none⟩ (.int .i64 x)) g1 P ∧ Row ((wr.drewN m).setCell ⟨g2, k, none⟩ (.int .i64 x)) g2 (Q.set k x) ∧ Below B w ((wr.drewN m).setCell ⟨g2, k, none⟩ (.int .i64 x)) :=
  ⟨(h1.drewN m).far (p := ⟨g2, k, none⟩) e _, (h2.drewN m).set_ k x, (below_drewN hB m).setCell (p := ⟨g2, k, none⟩) b _⟩

theorem row_own {w wr : World} {B B' g1 g3 k n c : Nat} {P l : List Int} (x : Int) (m : Nat) (h1 : Row wr g1 P) (h3 : Own wr B' (.slice (some ⟨g3, 0, none⟩) n c) l) (hB : Below B w wr) (e : g3 ≠ g1) (b : B ≤ g1) :
    Row ((wr.drewN m).setCell ⟨g1, k, none⟩ (.int .i64 x)) g1 (P.set k x) ∧ Own ((wr.drewN m).setCell ⟨g1, k, none⟩ (.int .i64 x)) B' (.slice (some ⟨g3, 0, none⟩) n c) l ∧ Below B w ((wr.drewN m).setCell ⟨g1, k, none⟩ (.int .i64 x)) :=
  ⟨(h1.drewN m).set_ k x, (h3.drewN m).far (p := ⟨g1, k, none⟩) e _, (below_drewN hB m).setCell (p := ⟨g1, k, none⟩) b _⟩

theorem Ints.lt {w : World} {b off : Nat} {zs : List Int} (h : Ints w (some ⟨b, off, none⟩) zs) {k : Nat} (hk : k < zs.length) : b < w.heap.size := by
  obtain ⟨b', off', e, hb, _⟩ := h.at_ hk
  injection e with e; injection e with e; rw [e]; exact hb

set_option maxHeartbeats 2000000 in
set_option maxRecDepth 100000 in
theorem rcapped_ok (total : Int) (A C : Option Addr) (zs caps : List Int) (ca cc : Nat) (w : World) (hA : Ints w A zs) (hC : Ints w C caps) (hE : SM.capE total zs caps = 0) :
    Calls Try.prog 38 #[.int .i64 total, .slice A zs.length ca, .slice C caps.length cc] w fun e w' =>
      ∃ v, e = .returned (.tuple #[v, .int .i64 (SM.capR total zs caps), .int .i64 0]) ∧ Own w' w.heap.size v (SM.capN total zs caps) ∧ Below w.heap.size w w' := by
  obtain ⟨h1, hl, hw, hcl, hca⟩ := SM.capE_ok hE
  obtain ⟨t0, t1⟩ := SM.inR_true.1 h1
  obtain ⟨s1, s2⟩ := SM.w_yes hw
  obtain ⟨y1, y2⟩ := SM.cap_yes hE
  rw [y1, y2]
  clear y1 y2 hE
  have hmk := make_ints zs.length (by omega)
  have HW := Lib.hid hw
  have HCA := Lib.hid hca
  have HCL := Lib.hid hcl
  have HCI := Lib.hid (SM.CI.start hcl t0)
  obtain ⟨R, hR⟩ : ∃ R, SM.capRun zs caps (zs.length + 1) (List.replicate zs.length 0) total = R := ⟨_, rfl⟩
  rw [hR, hcl]
  have HRR := Lib.hid hR
  clear hR hw hcl hca
  go_enter Try.func38, Try.ntmps38
  go_wp2_with (first
    | (go_at_call 55; refine (money_any _ _).mono ?_; rintro e w' ⟨rfl, rfl⟩)
    | (go_at_call 56; refine (rweights_any _ _ _ _ hA).mono ?_; rintro e w' ⟨rfl, rfl⟩))
  go_loop [11] (fun i => ∃ k : Nat, k ≤ zs.length ∧ i = .int .i64 k) (fun i => zs.length - (intOf i).toNat)
  case atStart => exact ⟨0, by omega, rfl⟩
  case round =>
    obtain ⟨k, hk, rfl⟩ := hrel
    by_cases hlt : k < zs.length
    · obtain ⟨b, off, v, rfl, hb, hcell, HV, v1, v2⟩ := hC.get (k := k) (by rw [HCL.out]; exact hlt)
      have hf : SM.inR v = true := by rw [← HV.out]; exact SM.inR_true.2 (SM.allR_get HCA.out (by rw [HCL.out]; exact hlt))
      go_wp2_with (go_at_call 55; refine (money_any _ _).mono ?_; rintro e w' ⟨rfl, rfl⟩)
      go_round
      case rel => exact ⟨k + 1, by omega, by go_num⟩
      case measure => simp [intOf]; omega
    · obtain rfl : k = zs.length := by omega
      go_wp2
      go_loopw [13, 14] (fun lf i wr => ∃ (P : List Int) (left : Int) (f k : Nat), lf = .int .i64 left ∧ i = .int .i64 k ∧ k ≤ zs.length + 1 ∧ Row wr w.heap.size P ∧ P.length = zs.length ∧ Below w.heap.size w wr ∧
          Hid (SM.capRun zs caps f P left = R) ∧ (left = 0 ∨ SM.CI zs caps total P left ∧ Hid (SM.cnt (SM.openOf zs caps P) < f) ∧ Hid (SM.cnt (SM.openOf zs caps P) + k ≤ zs.length))) (fun _ i _ => zs.length + 2 - (intOf i).toNat)
      case atStart =>
        refine ⟨_, total, zs.length + 1, 0, rfl, rfl, by omega, Row.made w _, by simp, (Below.refl _ _).alloc (Nat.le_refl _) _, HRR, .inr ⟨HCI.out, ?_, ?_⟩⟩
        all_goals
          have := (SM.cnt_range (SM.openOf zs caps (List.replicate zs.length 0))).2
          rw [SM.openOf_len] at this
          first
            | (show _ < _; push_cast; omega)
            | (show _ ≤ _; push_cast; omega)
      case round =>
        obtain ⟨P, left, f, k, rfl, rfl, hk1, hP, hPl, hB, HF, hst⟩ := hrel
        have HPL := Lib.hid hPl
        clear hPl
        by_cases hpos : 0 < left
        · obtain ⟨hCI, HCF, HCK⟩ : SM.CI zs caps total P left ∧ Hid (SM.cnt (SM.openOf zs caps P) < f) ∧ Hid (SM.cnt (SM.openOf zs caps P) + k ≤ zs.length) := by
            rcases hst with h | h
            · omega
            · exact h
          clear hst
          have hk2 : k ≤ zs.length := by have := (SM.cnt_range (SM.openOf zs caps P)).1; have := HCK.out; omega
          obtain ⟨hl1, hv⟩ := ci_bounds hCI HCA.out t1
          have HV := Lib.hid hv
          have HCI2 := Lib.hid hCI
          clear hv hCI
          obtain ⟨wo, rfl⟩ : ∃ wo : World, wo = wr := ⟨_, rfl⟩
          have hB1 : Below w.heap.size w (wo.alloc (.cells (zeros zs.length) 3)) := hB.alloc hB.size _
          have hP1 := hP.alloc (.cells (zeros zs.length) 3)
          have hO1 := Row.made wo zs.length
          have hg12 : w.heap.size ≠ wo.heap.size := by have := hP.lt; omega
          have hg2 := hB.size
          clear hP hB
          go_wp2
          go_loopw [16, 17] (fun an i wi => ∃ (j : Nat) (g : Bool), j ≤ zs.length ∧ i = .int .i64 j ∧ an = .bool g ∧ Hid (decide (0 < LM.tot (SM.tab j fun i => if P.getD i 0 < caps.getD i 0 then zs.getD i 0 else 0)) = g) ∧
              Row wi w.heap.size P ∧ Row wi wo.heap.size (SM.tab zs.length fun i => if i < j then (if P.getD i 0 < caps.getD i 0 then zs.getD i 0 else 0) else 0) ∧ Below w.heap.size w wi) (fun _ i _ => zs.length - (intOf i).toNat)
          case atStart =>
            refine ⟨0, false, by omega, rfl, rfl, rfl, hP1, ?_, hB1⟩
            rw [SM.pre_tab_zero]
            have : (SM.tab zs.length fun _ => 0) = List.replicate zs.length 0 := by unfold SM.tab; rw [List.map_const', List.length_range]
            rw [this]; exact hO1
          case round =>
            clear hP1 hO1 hB1
            obtain ⟨j, g, hj, rfl, rfl, HG, hP1, hO1, hB1⟩ := hrel
            by_cases hlt : j < zs.length
            · obtain ⟨b, off, v, rfl, hb, hcell, HVv, v1, v2⟩ := (hA.below hB1).get hlt
              obtain ⟨b', off', u, rfl, hb', hcell', HU, u1, u2⟩ := (hC.below hB1).get (k := j) (by rw [HCL.out]; exact hlt)
              obtain ⟨p, hp⟩ : ∃ p, P.getD j 0 = p := ⟨_, rfl⟩
              have hc1 := hP1.cell j (by rw [HPL.out]; exact hlt)
              rw [hp] at hc1
              have HPp := Lib.hid hp
              obtain ⟨o2, hc2⟩ : ∃ o, wr.cell? ⟨wo.heap.size, j, none⟩ = some (.int .i64 o) := ⟨_, hO1.cell j (by rw [SM.tab_len]; exact hlt)⟩
              have hf2 := hO1.frozen j
              have nb1 : b ≠ wo.heap.size := by have := hA.lt hlt; omega
              have nb2 : b' ≠ wo.heap.size := by have := hC.lt (k := j) (by rw [HCL.out]; exact hlt); omega
              have HT := Lib.hid (SM.tot_tab_succ j fun i => if P.getD i 0 < caps.getD i 0 then zs.getD i 0 else 0)
              have T0 := SM.openT_nonneg HW.out caps P j hj
              have hv0 := (SM.allR_get (SM.wOk_parts HW.out).1 hlt).1
              rw [HVv.out] at hv0
              simp only [HPp.out, HU.out, HVv.out] at HT
              clear hp
              generalize LM.tot (SM.tab j fun i => if P.getD i 0 < caps.getD i 0 then zs.getD i 0 else 0) = T at *
              by_cases hpu : p < u
              · rw [if_pos hpu] at HT
                have HS := Lib.hid (SM.pre_tab_set zs.length (fun i => if P.getD i 0 < caps.getD i 0 then zs.getD i 0 else 0) (fun _ => 0) j)
                simp only [HPp.out, HU.out, HVv.out, if_pos hpu] at HS
                have HR := Lib.hid (fun m => two_rows (k := j) v m hP1 hO1 hB1 hg12 hg2)
                clear hP1 hO1 hB1
                cases g
                · have hT : T = 0 := by have := HG.out; simp at this; omega
                  by_cases hvp : 0 < v
                  · go_wp2
                    go_quiet (fail)
                    go_wp2
                    go_roundw
                    case rel => exact ⟨j + 1, true, by omega, by go_num, rfl, by rw [HT.out]; show _ = _; simp; omega, (HR.out _).1, by rw [← HS.out]; exact (HR.out _).2.1, (HR.out _).2.2⟩
                    case measure => simp [intOf]; omega
                  · go_wp2
                    go_quiet (fail)
                    go_wp2
                    go_roundw
                    case rel => exact ⟨j + 1, false, by omega, by go_num, by rw [show decide (0 < v) = false by simpa using hvp], by rw [HT.out]; show _ = _; simp; omega, (HR.out _).1, by rw [← HS.out]; exact (HR.out _).2.1, (HR.out _).2.2⟩
                    case measure => simp [intOf]; omega
                · have hT : 0 < T := by have := HG.out; simpa using this
                  go_wp2
                  go_quiet (fail)
                  go_wp2
                  go_roundw
                  case rel => exact ⟨j + 1, true, by omega, by go_num, rfl, by rw [HT.out]; show _ = _; simp; omega, (HR.out _).1, by rw [← HS.out]; exact (HR.out _).2.1, (HR.out _).2.2⟩
                  case measure => simp [intOf]; omega
              · rw [if_neg hpu, Int.add_zero] at HT
                have HS := Lib.hid (pre_tab_skip zs.length (fun i => if P.getD i 0 < caps.getD i 0 then zs.getD i 0 else 0) (fun _ => 0) j (by simp only [HPp.out, HU.out, if_neg hpu]))
                have HR := Lib.hid (fun (m : Nat) => And.intro (hP1.drewN m) (And.intro (hO1.drewN m) (below_drewN hB1 m)))
                clear hP1 hO1 hB1
                go_wp2
                go_quiet (fail)
                go_wp2
                go_roundw
                case rel => exact ⟨j + 1, g, by omega, by go_num, rfl, by rw [HT.out]; exact HG.out, (HR.out _).1, by rw [← HS.out]; exact (HR.out _).2.1, (HR.out _).2.2⟩
                case measure => simp [intOf]; omega
            · obtain rfl : j = zs.length := by omega
              rw [SM.pre_tab_full] at hO1
              change Row wr wo.heap.size (SM.openOf zs caps P) at hO1
              change Hid (decide (0 < LM.tot (SM.openOf zs caps P)) = g) at HG
              have hok := SM.openOf_ok caps P HW.out
              have hol := SM.openOf_len zs caps P
              obtain ⟨oa, ob⟩ := SM.wOk_parts hok
              have oc := SM.tot_nonneg oa
              cases g
              · have h0 : LM.tot (SM.openOf zs caps P) = 0 := by have := HG.out; simp at this; omega
                have HE := Lib.hid (SM.capRun_shut zs caps f P left h0)
                rw [HF.out] at HE
                clear hok hol oa ob oc h0 HF
                go_wp2
                go_ret3
                refine ⟨_, by rw [HE.out]; rfl, ?_, hB1⟩
                rw [HE.out]
                have := hP1.own (Nat.le_refl _) (by rw [HPL.out]; exact hA.1)
                rw [HPL.out] at this
                exact this
              · have h0 : LM.tot (SM.openOf zs caps P) ≠ 0 := by have := HG.out; simp at this; omega
                have hrg := range_of oa
                have hIO : Ints wr (some ⟨wo.heap.size, 0, none⟩) (SM.openOf zs caps P) := hO1.ints (by rw [hol]; exact hA.1) hrg
                have CS := rsplit_any left _ _ zs.length _ hIO
                obtain ⟨q1, q2⟩ := SM.spl_ok (total := left) (SM.inR_true.2 ⟨by omega, hl1⟩) (by rw [hol]; omega) hok h0
                rw [hol, q1, q2] at CS
                have HCS := Lib.hid CS
                have hsum := SM.parts_sum (total := left) hok h0 (by omega)
                have hnn := fun j hj => SM.parts_nonneg (total := left) hok h0 (by omega) j hj
                have hle := fun j hj => SM.parts_le (total := left) hok h0 (by omega) j hj
                have hplen : (SM.parts left (LM.tot (SM.openOf zs caps P)) (SM.openOf zs caps P)).length = zs.length := by rw [SM.parts_len, hol]
                rw [hol] at hnn hle
                have HZ0 := Lib.hid h0
                have HNN := Lib.hid hnn; have HLE := Lib.hid hle; have HSM := Lib.hid hsum; have HPN := Lib.hid hplen
                obtain ⟨wp, rfl⟩ : ∃ wp : World, wp = wr := ⟨_, rfl⟩
                clear CS hIO hok hol hrg q1 q2 oa ob oc hnn hle hsum hplen h0 HG
                obtain ⟨l, hl'⟩ : ∃ l, SM.parts left (LM.tot (SM.openOf zs caps P)) (SM.openOf zs caps P) = l := ⟨_, rfl⟩
                rw [hl'] at HCS HNN HLE HSM HPN
                have HLl := Lib.hid hl'
                clear hl'
                have hzp : 0 < zs.length := by
                  rcases Nat.eq_zero_or_pos zs.length with h | h
                  · have : zs = [] := List.eq_nil_of_length_eq_zero h
                    subst this; exact absurd rfl HZ0.out
                  · exact h
                have hltP := hP1.lt
                go_wp2_with fail
                refine HCS.out.mono ?_
                rintro e w2 ⟨v, rfl, ho, hb2⟩
                have hP2 := hP1.below hb2 hltP
                have hB2 := hB1.trans (hb2.mono hB1.size)
                obtain ⟨g3, c3, hv3, hg3⟩ : ∃ g3 c3, v = .slice (some ⟨g3, 0, none⟩) zs.length c3 ∧ wp.heap.size ≤ g3 := by
                  rcases ho.form with ⟨_, h⟩ | ⟨g, c, r, hg, _⟩
                  · have := HPN.out; rw [h] at this; simp at this; omega
                  · exact ⟨g, c, by rw [r, HPN.out], hg⟩
                subst hv3
                have e31 : g3 ≠ w.heap.size := by omega
                have HP0 : Hid (P = SM.tab zs.length fun i => P.getD i 0) := by show _ = _; conv => lhs; rw [← SM.tab_self P, HPL.out]
                clear hP1 hO1 hB1 hb2
                go_wp2
                go_loopw [20, 21] (fun fu i wi => ∃ j : Nat, j ≤ zs.length ∧ i = .int .i64 j ∧ fu = .bool (SM.overK l caps j) ∧
                    Row wi w.heap.size (SM.tab zs.length fun i => if i < j then (if caps.getD i 0 < l.getD i 0 then caps.getD i 0 else P.getD i 0) else P.getD i 0) ∧
                    Own wi wp.heap.size (.slice (some ⟨g3, 0, none⟩) zs.length c3) l ∧ Below w.heap.size w wi) (fun _ i _ => zs.length - (intOf i).toNat)
                case atStart => exact ⟨0, by omega, rfl, rfl, by rw [SM.pre_tab_zero, ← HP0.out]; exact hP2, ho, hB2⟩
                case round =>
                  clear hP2 ho hB2
                  obtain ⟨j, hj, rfl, rfl, hP2, ho, hB2⟩ := hrel
                  by_cases hlt : j < zs.length
                  · obtain ⟨b', off', u, rfl, hb', hcell', HU, u1, u2⟩ := (hC.below hB2).get (k := j) (by rw [HCL.out]; exact hlt)
                    obtain ⟨y, hy⟩ : ∃ y, l.getD j 0 = y := ⟨_, rfl⟩
                    have hc3 := ho.cell j (by rw [HPN.out]; exact hlt)
                    rw [hy] at hc3
                    have HY := Lib.hid hy
                    clear hy
                    obtain ⟨o1, hc1⟩ : ∃ o, wr.cell? ⟨w.heap.size, j, none⟩ = some (.int .i64 o) := ⟨_, hP2.cell j (by rw [SM.tab_len]; exact hlt)⟩
                    have hf1 := hP2.frozen j
                    have HV1 := Lib.hid (SM.overK_succ l caps j)
                    rw [HU.out, HY.out] at HV1
                    generalize SM.overK l caps j = ov at *
                    by_cases hov : u < y
                    · have HS := Lib.hid (SM.pre_tab_set zs.length (fun i => if caps.getD i 0 < l.getD i 0 then caps.getD i 0 else P.getD i 0) (fun i => P.getD i 0) j)
                      simp only [HU.out, HY.out, if_pos hov] at HS
                      have HR := Lib.hid (fun m => row_own (k := j) u m hP2 ho hB2 e31 (Nat.le_refl _))
                      clear hP2 ho hB2
                      go_wp2
                      go_quiet (fail)
                      go_wp2
                      go_roundw
                      case rel => exact ⟨j + 1, by omega, by go_num, by rw [HV1.out]; simp [hov], by rw [← HS.out]; exact (HR.out _).1, (HR.out _).2.1, (HR.out _).2.2⟩
                      case measure => simp [intOf]; omega
                    · have HS := Lib.hid (pre_tab_skip zs.length (fun i => if caps.getD i 0 < l.getD i 0 then caps.getD i 0 else P.getD i 0) (fun i => P.getD i 0) j (by simp only [HU.out, HY.out, if_neg hov]))
                      have HR := Lib.hid (fun (m : Nat) => And.intro (hP2.drewN m) (And.intro (ho.drewN m) (below_drewN hB2 m)))
                      clear hP2 ho hB2
                      go_wp2
                      go_quiet (fail)
                      go_wp2
                      go_roundw
                      case rel => exact ⟨j + 1, by omega, by go_num, by rw [HV1.out, show decide (u < y) = false by simpa using hov, Bool.or_false], by rw [← HS.out]; exact (HR.out _).1, (HR.out _).2.1, (HR.out _).2.2⟩
                      case measure => simp [intOf]; omega
                  · obtain rfl : j = zs.length := by omega
                    rw [SM.pre_tab_full] at hP2
                    have HOV : Hid (SM.overK l caps zs.length = SM.over l caps) := by show _ = _; rw [← HPN.out]; rfl
                    rw [HOV.out]
                    obtain ⟨f', rfl⟩ : ∃ f', f = f' + 1 := ⟨f - 1, by have := (SM.cnt_range (SM.openOf zs caps P)).1; have := HCF.out; omega⟩
                    cases hov : SM.over l caps
                    · have HE := Lib.hid (SM.capRun_last zs caps f' P left hpos HZ0.out (by rw [HLl.out]; exact hov))
                      rw [HF.out, HLl.out] at HE
                      have ePP : (SM.tab zs.length fun i => if caps.getD i 0 < l.getD i 0 then caps.getD i 0 else P.getD i 0) = SM.tab zs.length fun i => P.getD i 0 :=
                        SM.tab_congr fun i hi => if_neg (SM.not_over hov i (by rw [HPN.out]; exact hi))
                      rw [ePP] at hP2
                      have HAL : Hid (SM.addL P l = SM.tab zs.length fun i => P.getD i 0 + l.getD i 0) := by show _ = _; unfold SM.addL; rw [HPL.out]
                      obtain ⟨wq, rfl⟩ : ∃ wq : World, wq = wr := ⟨_, rfl⟩
                      clear ePP hov HF HOV
                      go_wp2
                      go_loopw [23] (fun i wi => ∃ j : Nat, j ≤ zs.length ∧ i = .int .i64 j ∧ Row wi w.heap.size (SM.tab zs.length fun i => if i < j then (P.getD i 0 + l.getD i 0) else P.getD i 0) ∧
                          Own wi wp.heap.size (.slice (some ⟨g3, 0, none⟩) zs.length c3) l ∧ Below w.heap.size w wi) (fun i _ => zs.length - (intOf i).toNat)
                      case atStart => exact ⟨0, by omega, rfl, by rw [SM.pre_tab_zero]; exact hP2, ho, hB2⟩
                      case round =>
                        clear hP2 ho hB2
                        obtain ⟨j, hj, rfl, hP2, ho, hB2⟩ := hrel
                        by_cases hlt : j < zs.length
                        · obtain ⟨p0, p1⟩ := HV.out j hlt
                          have l0 := HNN.out j hlt
                          have l1 := HLE.out j hlt
                          have hc3 := ho.cell j (by rw [HPN.out]; exact hlt)
                          have hc1 := hP2.cell j (by rw [SM.tab_len]; exact hlt)
                          rw [SM.tab_get _ _ _ hlt, if_neg (Nat.lt_irrefl _)] at hc1
                          have hf1 := hP2.frozen j
                          have HS := Lib.hid (SM.pre_tab_set zs.length (fun i => P.getD i 0 + l.getD i 0) (fun i => P.getD i 0) j)
                          have HR := Lib.hid (row_own (k := j) (P.getD j 0 + l.getD j 0) 1 hP2 ho hB2 e31 (Nat.le_refl _))
                          clear hP2 ho hB2
                          generalize P.getD j 0 = p at *
                          generalize l.getD j 0 = q at *
                          have ew : wrap64 (p + q) = p + q := IntWalk.wrap64_in _ (by omega)
                          go_wp2
                          go_region
                          go_wp2
                          go_roundw
                          case rel => exact ⟨j + 1, by omega, by go_num, by rw [← HS.out]; exact HR.out.1, HR.out.2.1, HR.out.2.2⟩
                          case measure => simp [intOf]; omega
                        · obtain rfl : j = zs.length := by omega
                          rw [SM.pre_tab_full, ← HAL.out] at hP2
                          go_wp2
                          go_roundw
                          case rel => exact ⟨_, 0, f', k + 1, rfl, by go_num, by omega, hP2, by rw [HAL.out, SM.tab_len], hB2, by rw [HE.out]; exact SM.capRun_done _ _ _ _ _ (by omega), .inl rfl⟩
                          case measure => simp [intOf]; omega
                    · have HE := Lib.hid (SM.capRun_over zs caps f' P left hpos HZ0.out (by rw [HLl.out]; exact hov))
                      rw [HF.out, HLl.out] at HE
                      obtain ⟨n1, n2, n3, n4, n5⟩ := HCI2.out.full HW.out HCA.out hpos HZ0.out (by rw [HLl.out]; exact hov)
                      rw [HLl.out] at n1 n2 n3 n4
                      have ePP : (SM.tab zs.length fun i => if caps.getD i 0 < l.getD i 0 then caps.getD i 0 else P.getD i 0) = SM.capOut l caps P := by unfold SM.capOut; rw [HPL.out]
                      rw [ePP] at hP2
                      have hlen' := n1.len
                      obtain ⟨_, hv'⟩ := ci_bounds n1 HCA.out t1
                      have hs' := n1.sum
                      have N1 := Lib.hid n1; have N4 := Lib.hid n4
                      have HLEN := Lib.hid hlen'
                      have HVV := Lib.hid hv'
                      obtain ⟨wq, rfl⟩ : ∃ wq : World, wq = wr := ⟨_, rfl⟩
                      have hn0 := n1.l0
                      have HSUM := Lib.hid hs'
                      clear ePP hov HF HOV n1 n4 n5 hlen' hv' hs'
                      generalize SM.capOut l caps P = P' at *
                      generalize SM.capTaken l caps = tk at *
                      go_wp2
                      go_loopw [13, 22] (fun lf i wi => ∃ j : Nat, j ≤ zs.length ∧ i = .int .i64 j ∧ lf = .int .i64 (total - LM.tot (P'.take j)) ∧ wi = wq) (fun _ i _ => zs.length - (intOf i).toNat)
                      case atStart => exact ⟨0, by omega, rfl, by simp [LM.tot], rfl⟩
                      case round =>
                        obtain ⟨j, hj, rfl, rfl, rfl⟩ := hrel
                        have s0 : 0 ≤ LM.tot (P'.take j) := SM.tot_nonneg' _ (fun i hi => by
                          have hi' : i < j ∧ i < P'.length := by rw [List.length_take] at hi; omega
                          rw [show (P'.take j).getD i 0 = P'.getD i 0 by simp [List.getD, hi'.1]]
                          exact (HVV.out i (by rw [← HLEN.out]; exact hi'.2)).1)
                        have s1 : LM.tot (P'.take j) ≤ LM.tot P' := SM.elem_take_le P' j (fun i hi => (HVV.out i (by rw [← HLEN.out]; exact hi)).1)
                        have hsm := HSUM.out
                        have tp : LM.tot P' ≤ total := by omega
                        by_cases hlt : j < zs.length
                        · have s2 : LM.tot (P'.take (j + 1)) ≤ LM.tot P' := SM.elem_take_le P' (j + 1) (fun i hi => (HVV.out i (by rw [← HLEN.out]; exact hi)).1)
                          rw [LM.tot_take_succ P' j (by rw [HLEN.out]; exact hlt)] at s2
                          obtain ⟨p0, p1⟩ := HVV.out j hlt
                          have hc1 := hP2.cell j (by rw [HLEN.out]; exact hlt)
                          have HTS := Lib.hid (LM.tot_take_succ P' j (by rw [HLEN.out]; exact hlt))
                          clear hsm
                          generalize P'.getD j 0 = p at *
                          generalize LM.tot (P'.take j) = T at *
                          go_wp2
                          go_roundw
                          case rel => exact ⟨j + 1, by omega, by go_num, by rw [HTS.out]; go_num, trivial⟩
                          case measure => simp [intOf]; omega
                        · obtain rfl : j = zs.length := by omega
                          have et : P'.take zs.length = P' := List.take_of_length_le (by rw [HLEN.out]; exact Nat.le_refl _)
                          have el : total - LM.tot (P'.take zs.length) = left - tk := by rw [et]; omega
                          rw [el]
                          clear et el hsm s0 s1
                          go_wp2
                          go_roundw
                          case rel => exact ⟨P', _, f', k + 1, rfl, by go_num, by omega, hP2, HLEN.out, hB2, HE.out.symm, .inr ⟨N1.out, by have h1 := N4.out; have h2 := HCF.out; show _ < _; push_cast at h2; omega, by have h1 := N4.out; have h2 := HCK.out; show _ ≤ _; push_cast; omega⟩⟩
                          case measure => simp [intOf]; omega
        · have HE := Lib.hid (SM.capRun_done zs caps f P left (by omega))
          rw [HF.out] at HE
          clear HF hst
          by_cases hk3 : k ≤ zs.length
          all_goals
            go_wp2
            go_ret3
            refine ⟨_, by rw [HE.out]; rfl, ?_, hB⟩
            rw [HE.out]
            have := hP.own (Nat.le_refl _) (by rw [HPL.out]; exact hA.1)
            rw [HPL.out] at this
            exact this

set_option maxHeartbeats 2000000 in
set_option maxRecDepth 100000 in
theorem rcapped_any (total : Int) (A C : Option Addr) (zs caps : List Int) (ca cc : Nat) (w : World) (hA : Ints w A zs) (hC : Ints w C caps) :
    Calls Try.prog 38 #[.int .i64 total, .slice A zs.length ca, .slice C caps.length cc] w fun e w' =>
      ∃ v, e = .returned (.tuple #[v, .int .i64 (SM.capR total zs caps), .int .i64 (SM.capE total zs caps)]) ∧ Own w' w.heap.size v (SM.capN total zs caps) ∧ Below w.heap.size w w' := by
  have hlA := hA.len
  have hlC := hC.len
  by_cases hE : SM.capE total zs caps = 0
  · rw [hE]; exact rcapped_ok total A C zs caps ca cc w hA hC hE
  · obtain ⟨n1, n2⟩ := SM.cap_no hE
    rw [n1, n2]
    clear n1 n2
    cases h1 : SM.inR total
    · have e1 : SM.capE total zs caps = 2 := by simp [SM.capE, h1]
      rw [e1]; clear e1 hE
      go_enter Try.func38, Try.ntmps38
      go_wp2_with (go_at_call 55; refine (money_any _ _).mono ?_; rintro e w' ⟨rfl, rfl⟩)
      go_ret3
      exact ⟨_, rfl, Own.nil _ _, Below.refl _ _⟩
    · by_cases hlong : 1024 < zs.length
      · have e1 : SM.capE total zs caps = 8 := by simp [SM.capE, h1, SM.sE, hlong]
        rw [e1]; clear e1 hE
        go_enter Try.func38, Try.ntmps38
        go_wp2_with (go_at_call 55; refine (money_any _ _).mono ?_; rintro e w' ⟨rfl, rfl⟩)
        go_ret3
        exact ⟨_, rfl, Own.nil _ _, Below.refl _ _⟩
      · cases hw : SM.wOk zs
        · obtain ⟨s1, s2⟩ := SM.w_no hw
          have e1 : SM.capE total zs caps = 26 := by simp [SM.capE, h1, SM.sE, hlong, s2]
          rw [e1]; clear e1 hE
          go_enter Try.func38, Try.ntmps38
          go_wp2_with (first
            | (go_at_call 55; refine (money_any _ _).mono ?_; rintro e w' ⟨rfl, rfl⟩)
            | (go_at_call 56; refine (rweights_any _ _ _ _ hA).mono ?_; rintro e w' ⟨rfl, rfl⟩))
          go_ret3
          exact ⟨_, rfl, Own.nil _ _, Below.refl _ _⟩
        · obtain ⟨s1, s2⟩ := SM.w_yes hw
          have h2 : SM.sE zs = 0 := by simp [SM.sE, hlong, s2]
          have e1 : SM.capE total zs caps = 2 := by
            unfold SM.capE at hE ⊢
            simp only [h1, h2, if_true] at hE ⊢
            by_cases h3 : caps.length = zs.length ∧ SM.allR caps = true
            · simp [h3] at hE
            · simp [h3]
          by_cases h3 : caps.length = zs.length
          · have h4 : SM.allR caps = false := by
              cases hc : SM.allR caps
              · rfl
              · simp [SM.capE, h1, h2, h3, hc] at hE
            rw [e1, h3]
            have HCL := Lib.hid h3
            have H4 := Lib.hid h4
            clear e1 hE h3 h4 h2
            go_enter Try.func38, Try.ntmps38
            go_wp2_with (first
              | (go_at_call 55; refine (money_any _ _).mono ?_; rintro e w' ⟨rfl, rfl⟩)
              | (go_at_call 56; refine (rweights_any _ _ _ _ hA).mono ?_; rintro e w' ⟨rfl, rfl⟩))
            go_loop [11] (fun i => ∃ k : Nat, k ≤ zs.length ∧ i = .int .i64 k ∧ Hid (SM.allR (caps.take k) = true)) (fun i => zs.length - (intOf i).toNat)
            case atStart => exact ⟨0, by omega, rfl, rfl⟩
            case round =>
              obtain ⟨k, hk, rfl, HT⟩ := hrel
              by_cases hlt : k < zs.length
              · obtain ⟨b, off, v, rfl, hb, hcell, HV, v1, v2⟩ := hC.get (k := k) (by rw [HCL.out]; exact hlt)
                cases hf : SM.inR v
                · go_wp2_with (go_at_call 55; refine (money_any _ _).mono ?_; rintro e w' ⟨rfl, rfl⟩)
                  go_ret3
                  exact ⟨_, rfl, Own.nil _ _, Below.refl _ _⟩
                · have HN : Hid (SM.allR (caps.take (k + 1)) = true) := by rw [SM.allR_take_succ caps k (by rw [HCL.out]; exact hlt), HT.out, HV.out, hf]; exact rfl
                  go_wp2_with (go_at_call 55; refine (money_any _ _).mono ?_; rintro e w' ⟨rfl, rfl⟩)
                  go_round
                  case rel => exact ⟨k + 1, by omega, by go_num, HN⟩
                  case measure => simp [intOf]; omega
              · exfalso
                have : caps.take k = caps := List.take_of_length_le (by rw [HCL.out]; omega)
                have h := HT.out
                rw [this, H4.out] at h
                cases h
          · rw [e1]; clear e1 hE
            have h3' : ((caps.length : Int) != (zs.length : Int)) = true := by rw [bne_iff_ne]; omega
            clear h3
            go_enter Try.func38, Try.ntmps38
            go_wp2_with (first
              | (go_at_call 55; refine (money_any _ _).mono ?_; rintro e w' ⟨rfl, rfl⟩)
              | (go_at_call 56; refine (rweights_any _ _ _ _ hA).mono ?_; rintro e w' ⟨rfl, rfl⟩))
            go_ret3
            exact ⟨_, rfl, Own.nil _ _, Below.refl _ _⟩
end Go.Proofs.Ytgpdkidbmfngmaa
