/- Contracts of layer 17: Volume, Vwap. -/
import Derived.Test.YtaegapcccboinaaTapD
import Derived.Test.YtaegapcccboinaaCentsD
namespace Go.Proofs.Ytaegapcccboinaa
open Go.RowKit Go.Recs
set_option linter.unusedVariables false
set_option linter.unusedSimpArgs false
set_option maxHeartbeats 2000000 in
theorem volume_any (A : Option Addr) (l : List TP.Tick) (n cap : Nat) (hn : n = l.length) (w : World) (hI : Ticks w A l) :
    Calls Try.prog 19 #[.slice A n cap] w fun e w' => e = .returned (.tuple #[.int .i64 (TP.volN l), .int .i64 (TP.allE l)]) ∧ Below w.heap.size w w' := by
  have C1 := Lib.hid (tcheck_any A l n cap hn w hI)
  by_cases h : TP.allE l = 0
  · have e : TP.volN l = TP.vol l := by unfold TP.volN; rw [if_pos h]
    have C2 := Lib.hid (fun ww hh => totals_any A l n cap hn ww hh (TP.good h))
    have HI := Lib.hid hI
    rw [h] at C1 ⊢
    rw [e]
    generalize TP.vol l = x at *
    generalize TP.val l = y at *
    clear h e hI hn
    go_enter Try.func19, Try.ntmps19
    go_wp2_with fail
    refine C1.out.mono ?_
    rintro e w1 ⟨rfl, b1⟩
    have HB1 := Lib.hid b1
    clear b1
    go_wp2_with fail
    refine (C2.out _ (HI.out.below HB1.out)).mono ?_
    rintro e w2 ⟨rfl, b2⟩
    have HB2 := Lib.hid (HB1.out.trans (b2.mono HB1.out.size))
    clear b2
    go_wp2_with fail
    go_ret2
    exact ⟨rfl, HB2.out⟩
  · have e : TP.volN l = 0 := by unfold TP.volN; rw [if_neg h]
    rw [e]
    generalize TP.allE l = x at *
    have h2 : (x != 0) = true := by simpa using h
    clear e hI hn
    go_enter Try.func19, Try.ntmps19
    go_wp2_with fail
    refine C1.out.mono ?_
    rintro e w1 ⟨rfl, b1⟩
    have HB1 := Lib.hid b1
    clear b1
    go_wp2_with fail
    go_ret2
    exact ⟨rfl, HB1.out⟩
set_option maxRecDepth 100000 in
set_option maxHeartbeats 4000000 in
theorem vwap_any (A : Option Addr) (l : List TP.Tick) (n cap : Nat) (step mode : Int) (hn : n = l.length) (w : World) (hI : Ticks w A l) :
    Calls Try.prog 12 #[.slice A n cap, .int .i64 step, .int .i64 mode] w fun e w' => e = .returned (.tuple #[.int .i64 (TP.vwN l step mode), .int .i64 (TP.vwE l step mode)]) ∧ Below w.heap.size w w' := by
  have hlen := hI.len
  have C1 := Lib.hid (tcheck_any A l n cap hn w hI)
  have C3 := Lib.hid (fun n a b ww => within17_any n a b ww)
  by_cases h : TP.allE l = 0
  · have HI := Lib.hid hI
    have KS := Lib.hid (@TP.vw_step l step mode h); have KM := Lib.hid (@TP.vw_mode l step mode h); have KN := Lib.hid (@TP.vw_none l step mode h); have KO := Lib.hid (@TP.vw_ok l step mode h)
    have HG := Lib.hid (TP.good h)
    have C2 := Lib.hid (fun ww hh => totals_any A l n cap hn ww hh (TP.good h))
    have C4 := Lib.hid (fun a c ww => muldiv_any a 1 c mode ww)
    have KB := Lib.hid (@TP.vw_bounds l step mode HG.out)
    rw [h] at C1
    subst hn
    clear h hI
    generalize TP.vwE l step mode = y at *
    generalize TP.vwN l step mode = x at *
    go_enter Try.func12, Try.ntmps12
    go_wp2_with fail
    refine C1.out.mono ?_
    rintro e w1 ⟨rfl, b1⟩
    have HB1 := Lib.hid b1
    clear b1
    go_wp2_with fail
    refine (C3.out _ _ _ _).mono ?_
    rintro e w2 ⟨rfl, rfl⟩
    cases g1 : QM.within step 1 16777216
    · have HX := Lib.hid (KS.out g1)
      clear g1
      go_wp2_with fail
      go_ret2
      exact ⟨by rw [HX.out.1, HX.out.2] <;> rfl, HB1.out⟩
    go_wp2_with fail
    refine (C3.out _ _ _ _).mono ?_
    rintro e w2 ⟨rfl, rfl⟩
    cases g2 : QM.within mode 1 5
    · have HX := Lib.hid (KM.out g1 g2)
      clear g1 g2
      go_wp2_with fail
      go_ret2
      exact ⟨by rw [HX.out.1, HX.out.2] <;> rfl, HB1.out⟩
    by_cases h0 : l.length = 0
    · have HX := Lib.hid (KN.out g1 g2 h0)
      have h1 : (l.length : Int) = 0 := by omega
      clear g1 g2
      go_wp2_with fail
      go_ret2
      exact ⟨by rw [HX.out.1, HX.out.2] <;> rfl, HB1.out⟩
    · have HX := Lib.hid (KO.out g1 g2 (by omega))
      have h1 : ¬ (l.length : Int) = 0 := by omega
      obtain ⟨⟨v1, v2⟩, ⟨s1, s2⟩, _, he, ⟨k1, k2⟩, p1, p2⟩ := KB.out (QM.within_true.1 g1) (QM.within_true.1 g2).1 (QM.within_true.1 g2).2 (by omega)
      have HK : Hid (TP.vwK l step mode = CM.mdN (TP.val l) 1 (TP.vol l * step) mode) := Lib.hid rfl
      have C5 := Lib.hid (fun ww => C4.out (TP.val l) (TP.vol l * step) ww)
      rw [he, ← HK.out] at C5
      clear g1 g2 h0 KB KO KN KM KS HK C4 he
      generalize TP.vwK l step mode = k at *
      generalize TP.vol l = q at *
      generalize TP.val l = v at *
      go_wp2_with fail
      refine (C2.out _ (HI.out.below HB1.out)).mono ?_
      rintro e w2 ⟨rfl, b2⟩
      have HB2 := Lib.hid (HB1.out.trans (b2.mono HB1.out.size))
      clear b2
      go_wp2_with fail
      refine (C5.out _).mono ?_
      rintro e w3 ⟨rfl, b3⟩
      have HB3 := Lib.hid (HB2.out.trans (b3.mono HB2.out.size))
      clear b3
      go_wp2_with fail
      go_ret2
      exact ⟨by rw [HX.out.1, HX.out.2] <;> rfl, HB3.out⟩
  · have e := TP.vw_check (step := step) (mode := mode) h
    rw [e.1, e.2]
    generalize TP.allE l = x at *
    have h2 : (x != 0) = true := by simpa using h
    clear e hI hn hlen
    go_enter Try.func12, Try.ntmps12
    go_wp2_with fail
    refine C1.out.mono ?_
    rintro e w1 ⟨rfl, b1⟩
    have HB1 := Lib.hid b1
    clear b1
    go_wp2_with fail
    go_ret2
    exact ⟨rfl, HB1.out⟩
end Go.Proofs.Ytaegapcccboinaa
