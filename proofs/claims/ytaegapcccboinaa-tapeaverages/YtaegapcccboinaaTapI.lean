/- Contracts of layer 17's reference: Vwap. -/
import Derived.Test.YtaegapcccboinaaTapH
namespace Go.Proofs.Ytaegapcccboinaa
open Go.RowKit Go.Recs
set_option linter.unusedVariables false
set_option linter.unusedSimpArgs false
set_option maxRecDepth 100000 in
set_option maxHeartbeats 4000000 in
theorem rvwap17_any (A : Option Addr) (l : List TP.Tick) (n cap : Nat) (step mode : Int) (hn : n = l.length) (w : World) (hI : Ticks w A l) :
    Calls Try.prog 13 #[.slice A n cap, .int .i64 step, .int .i64 mode] w fun e w' => e = .returned (.tuple #[.int .i64 (TP.vwN l step mode), .int .i64 (TP.vwE l step mode)]) ∧ ∃ k, w' = w.drewN k := by
  have C1 := Lib.hid (rvolume17_any A l n cap hn w hI)
  subst hn
  have hlen := hI.len
  by_cases h : TP.allE l = 0
  · have e : TP.volN l = TP.vol l := by unfold TP.volN; rw [if_pos h]
    rw [h, e] at C1
    by_cases g1 : 1 ≤ step ∧ step ≤ 16777216
    · by_cases g2 : 1 ≤ mode ∧ mode ≤ 5
      · by_cases g3 : l.length = 0
        · have ⟨e1, e2⟩ := @TP.vw_none l step mode h (QM.within_true.2 g1) (QM.within_true.2 g2) g3
          rw [e1, e2]
          generalize TP.vol l = x at *
          obtain ⟨s1, s2⟩ := g1; obtain ⟨m1, m2⟩ := g2
          rw [g3] at C1 ⊢
          clear h e hI e1 e2 hlen g3
          go_enter Try.func13, Try.ntmps13
          go_wp2_with fail
          refine C1.out.mono ?_
          rintro e w1 ⟨rfl, n1, rfl⟩
          go_wp2_with fail
          go_ret2
          exact ⟨rfl, n1, rfl⟩
        · have ⟨e1, e2⟩ := @TP.vw_ok l step mode h (QM.within_true.2 g1) (QM.within_true.2 g2) (by omega)
          rw [e1, e2]
          have hg := TP.good h
          obtain ⟨⟨v1, v2⟩, ⟨k1, k2⟩, _, he, ⟨u1, u2⟩, p1, p2⟩ := TP.vw_bounds (mode := mode) hg g1 g2.1 g2.2 (by omega)
          have C4 := fun ww => rmuldiv_any (TP.val l) 1 (TP.vol l * step) mode ww
          have HK : TP.vwK l step mode = CM.mdN (TP.val l) 1 (TP.vol l * step) mode := rfl
          rw [he, ← HK] at C4
          have C5 := Lib.hid C4
          have KB : Hid (∀ k, k < l.length → (-18014398509481984 ≤ TP.valU l k ∧ TP.valU l k ≤ 18014398509481984) ∧ (-17592186044416 ≤ (TP.tAt l k).qty * (TP.tAt l k).price ∧ (TP.tAt l k).qty * (TP.tAt l k).price ≤ 17592186044416) ∧ TP.valU l (k + 1) = TP.valU l k + (TP.tAt l k).qty * (TP.tAt l k).price) := Lib.hid (fun k hk => by
            have := TP.val_bounds hg k (by omega)
            have := hg.len
            have e2 := hg.each k hk
            have := TP.mul_bound e2.2.2 e2.2.1
            rw [Int.mul_comm (TP.tAt l k).qty]
            exact ⟨by omega, this, TP.valU_succ hk⟩)
          have KE : Hid (TP.valU l l.length = TP.val l) := Lib.hid (TP.valU_all l)
          obtain ⟨s1, s2⟩ := g1; obtain ⟨m1, m2⟩ := g2
          have h1 : ¬ (l.length : Int) = 0 := by omega
          have HI := Lib.hid hI
          clear h e hI e1 e2 C4 HK he hg
          generalize TP.vwK l step mode = kk at *
          generalize TP.vol l = q at *
          generalize TP.val l = v at *
          go_enter Try.func13, Try.ntmps13
          go_wp2_with fail
          refine C1.out.mono ?_
          rintro e w1 ⟨rfl, n1, rfl⟩
          go_wp2_with fail
          go_loopw [10, 11] (fun a i wr => ∃ k : Nat, k ≤ l.length ∧ i = .int .i64 (k : Int) ∧ (∃ y : Int, a = .int .i64 y ∧ Hid (y = TP.valU l k)) ∧ ∃ nd, wr = w.drewN nd) (fun _ i _ => l.length - (intOf i).toNat)
          case atStart => exact ⟨0, by omega, rfl, ⟨0, rfl, Lib.hid rfl⟩, n1, rfl⟩
          case round =>
            obtain ⟨k, hk, rfl, ⟨y, rfl, HY⟩, nd, rfl⟩ := hrel
            by_cases hlt : k < l.length
            · obtain ⟨b, off, t, rfl, hb, HV, ⟨q0, q1, q2⟩, d0, d1, d2⟩ := ticks_get HI.out hlt
              obtain ⟨⟨y1, y2⟩, ⟨z1, z2⟩, hs⟩ := KB.out k hlt
              rw [HV.out] at z1 z2 hs
              rw [← HY.out] at y1 y2 hs
              have HS := Lib.hid hs.symm
              clear hs q0 q1 q2 HV HY KB KE C5
              go_wp2_with fail
              go_quiet (fail)
              go_wp2_with fail
              go_roundw
              case rel => exact ⟨k + 1, by omega, by go_num, ⟨_, rfl, HS⟩, _, rfl⟩
              case measure => simp [intOf]; omega
            · obtain rfl : k = l.length := by omega
              obtain rfl : y = v := HY.out.trans KE.out
              clear KB KE
              go_wp2_with fail
              refine (C5.out _).mono ?_
              rintro e w3 ⟨rfl, rfl⟩
              go_wp2_with fail
              go_ret2
              exact ⟨rfl, nd, rfl⟩
      · have ⟨e1, e2⟩ := @TP.vw_mode l step mode h (QM.within_true.2 g1) (by rw [QM.within_false]; omega)
        rw [e1, e2]
        generalize TP.vol l = x at *
        obtain ⟨s1, s2⟩ := g1
        clear h e hI e1 e2
        by_cases m1 : mode < 1
        · go_enter Try.func13, Try.ntmps13
          go_wp2_with fail
          refine C1.out.mono ?_
          rintro e w1 ⟨rfl, n1, rfl⟩
          go_wp2_with fail
          go_ret2
          exact ⟨rfl, n1, rfl⟩
        · have m2 : 5 < mode := by omega
          go_enter Try.func13, Try.ntmps13
          go_wp2_with fail
          refine C1.out.mono ?_
          rintro e w1 ⟨rfl, n1, rfl⟩
          go_wp2_with fail
          go_ret2
          exact ⟨rfl, n1, rfl⟩
    · have ⟨e1, e2⟩ := @TP.vw_step l step mode h (by rw [QM.within_false]; omega)
      rw [e1, e2]
      generalize TP.vol l = x at *
      clear h e hI e1 e2
      by_cases m1 : step < 1
      · go_enter Try.func13, Try.ntmps13
        go_wp2_with fail
        refine C1.out.mono ?_
        rintro e w1 ⟨rfl, n1, rfl⟩
        go_wp2_with fail
        go_ret2
        exact ⟨rfl, n1, rfl⟩
      · have m2 : 16777216 < step := by omega
        go_enter Try.func13, Try.ntmps13
        go_wp2_with fail
        refine C1.out.mono ?_
        rintro e w1 ⟨rfl, n1, rfl⟩
        go_wp2_with fail
        go_ret2
        exact ⟨rfl, n1, rfl⟩
  · have e : TP.volN l = 0 := by unfold TP.volN; rw [if_neg h]
    have ⟨e1, e2⟩ := TP.vw_check (step := step) (mode := mode) h
    rw [e1, e2]
    rw [e] at C1
    generalize TP.allE l = x at *
    have h2 : (x != 0) = true := by simpa using h
    clear e hI e1 e2
    go_enter Try.func13, Try.ntmps13
    go_wp2_with fail
    refine C1.out.mono ?_
    rintro e w1 ⟨rfl, n1, rfl⟩
    go_wp2_with fail
    go_ret2
    exact ⟨rfl, n1, rfl⟩
end Go.Proofs.Ytaegapcccboinaa
