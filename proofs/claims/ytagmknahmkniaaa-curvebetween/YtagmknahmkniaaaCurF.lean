/- Contracts of layer 19: checkTick, priceOf, At. -/
import Derived.Test.YtagmknahmkniaaaCurE
import Derived.Test.YtagmknahmkniaaaCurB
namespace Go.Proofs.Ytagmknahmkniaaa
open Go.RowKit Go.Recs
set_option linter.unusedVariables false
set_option linter.unusedSimpArgs false
set_option maxHeartbeats 4000000 in
theorem uchecktick_any (A : Option Addr) (l : List UM.Pt) (n cap : Nat) (hn : n = l.length) (tick : Int) (w : World) (hI : Pts w A l) :
    Calls Try.prog 26 #[.slice A n cap, .int .i64 tick] w fun e w' => e = .returned (.int .i64 (UM.tickE l tick)) ∧ Below w.heap.size w w' := by
  subst hn
  have C1 := Lib.hid (ucheck_any A l l.length cap rfl w hI)
  have C2 := Lib.hid (fun ww => uwithin_any tick 1 16777216 ww)
  by_cases h : UM.checkE l = 0
  · rw [h] at C1
    cases g : QM.within tick 1 16777216
    · have e : UM.tickE l tick = 16 := by unfold UM.tickE; rw [if_neg (by simp [h]), if_pos g]
      rw [g] at C2
      rw [e]; clear h e g hI
      go_enter Try.func26, Try.ntmps26
      go_wp2_with fail
      refine C1.out.mono ?_
      rintro e w1 ⟨rfl, b1⟩
      have HB := Lib.hid b1
      clear b1 C1
      go_wp2_with fail
      refine (C2.out _).mono ?_
      rintro e w2 ⟨rfl, rfl⟩
      go_wp2_with fail
      go_ret
      exact ⟨rfl, HB.out⟩
    · have e : UM.tickE l tick = 0 := by unfold UM.tickE; rw [if_neg (by simp [h]), if_neg (by simp [g])]
      rw [g] at C2
      rw [e]; clear h e g hI
      go_enter Try.func26, Try.ntmps26
      go_wp2_with fail
      refine C1.out.mono ?_
      rintro e w1 ⟨rfl, b1⟩
      have HB := Lib.hid b1
      clear b1 C1
      go_wp2_with fail
      refine (C2.out _).mono ?_
      rintro e w2 ⟨rfl, rfl⟩
      go_wp2_with fail
      go_ret
      exact ⟨rfl, HB.out⟩
  · have e : UM.tickE l tick = UM.checkE l := by unfold UM.tickE; rw [if_pos h]
    have hd : (UM.checkE l != 0) = true := by simpa using h
    rw [e]
    generalize UM.checkE l = y at *
    clear e h hI
    go_enter Try.func26, Try.ntmps26
    go_wp2_with fail
    refine C1.out.mono ?_
    rintro e w1 ⟨rfl, b1⟩
    have HB := Lib.hid b1
    clear b1 C1
    go_wp2_with fail
    go_ret
    exact ⟨rfl, HB.out⟩
set_option maxHeartbeats 4000000 in
theorem upriceof_any (A : Option Addr) (l : List UM.Pt) (n cap : Nat) (hn : n = l.length) (day tick : Int) (g : UM.Good l) (hd : 0 ≤ day ∧ day ≤ 73048) (ht : 1 ≤ tick ∧ tick ≤ 16777216) (w : World) (hI : Pts w A l) :
    Calls Try.prog 28 #[.slice A n cap, .int .i64 day, .int .i64 tick] w fun e w' => e = .returned (.tuple #[.int .i64 (UM.priceN l day tick), .int .i64 0]) ∧ Below w.heap.size w w' := by
  subst hn
  have gl := pt_guard
  obtain ⟨-, hc⟩ := UM.ar_cases g (tick := tick) hd ht
  have C1 := Lib.hid (uaround_any A l l.length cap rfl day w hI)
  rcases hc with e | ⟨e, hp⟩
  · rw [UM.price_same tick e]
    rw [← e] at C1
    have E1 : ∀ ww, (Op.equalIn 10000 44 (ptA (UM.arA l day)) (ptA (UM.arA l day))).run Try.prog ww = .ok true ww := fun ww => by rw [pt_in, pteq_is, decide_eq_true rfl]
    generalize UM.arA l day = a at *
    clear e hI g hd ht
    go_enter Try.func28, Try.ntmps28
    go_wp2_with fail
    refine C1.out.mono ?_
    rintro e w1 ⟨rfl, b1⟩
    have HB := Lib.hid (below_al (below_al b1 (.cells (ptC a) 44)) (.cells (ptC a) 44))
    have hA := (CB.new w1 44 (ptC a)).alloc (.cells (ptC a) 44)
    have hC := CB.new1 w1 (.cells (ptC a) 44) 44 (ptC a)
    have a0 := hA.cell 0
    have a1 := hA.cell 1
    have a2 := hA.cell 2
    have c0 := hC.cell 0
    have c1 := hC.cell 1
    have c2 := hC.cell 2
    simp only [List.getElem?_toArray, List.getElem?_cons_zero, List.getElem?_cons_succ] at a0 a1 a2 c0 c1 c2
    clear b1 hA hC C1
    go_wp2_with fail
    go_ret2
    exact ⟨rfl, HB.out⟩
  · rw [UM.price_tween tick e]
    have C2 := Lib.hid (fun ww => utween_any _ _ day tick hp ww)
    have E1 : ∀ ww, (Op.equalIn 10000 44 (ptA (UM.arA l day)) (ptA (UM.arB l day))).run Try.prog ww = .ok false ww := fun ww => by rw [pt_in, pteq_is, decide_eq_false e]
    generalize UM.tweenN (UM.arA l day) (UM.arB l day) day tick = z at *
    generalize UM.arA l day = a at *
    generalize UM.arB l day = b at *
    clear e hI g hd ht hp
    go_enter Try.func28, Try.ntmps28
    go_wp2_with fail
    refine C1.out.mono ?_
    rintro e w1 ⟨rfl, b1⟩
    have HB := Lib.hid (below_al (below_al b1 (.cells (ptC a) 44)) (.cells (ptC b) 44))
    have hA := (CB.new w1 44 (ptC a)).alloc (.cells (ptC b) 44)
    have hC := CB.new1 w1 (.cells (ptC a) 44) 44 (ptC b)
    have a0 := hA.cell 0
    have a1 := hA.cell 1
    have a2 := hA.cell 2
    have c0 := hC.cell 0
    have c1 := hC.cell 1
    have c2 := hC.cell 2
    simp only [List.getElem?_toArray, List.getElem?_cons_zero, List.getElem?_cons_succ] at a0 a1 a2 c0 c1 c2
    clear b1 hA hC C1
    go_wp2_with fail
    refine (C2.out _).mono ?_
    rintro e w2 ⟨rfl, b2⟩
    have HB2 := Lib.hid (HB.out.trans (b2.mono HB.out.size))
    clear b2
    go_wp2_with fail
    go_ret2
    exact ⟨rfl, HB2.out⟩
set_option maxHeartbeats 4000000 in
theorem uat_any (A : Option Addr) (l : List UM.Pt) (n cap : Nat) (hn : n = l.length) (day tick : Int) (w : World) (hI : Pts w A l) :
    Calls Try.prog 10 #[.slice A n cap, .int .i64 day, .int .i64 tick] w fun e w' => e = .returned (.tuple #[.int .i64 (UM.atN l day tick), .int .i64 (UM.atE l day tick)]) ∧ Below w.heap.size w w' := by
  subst hn
  have C1 := Lib.hid (uchecktick_any A l l.length cap rfl tick w hI)
  have C2 := Lib.hid (fun ww => uwithin_any day 0 73048 ww)
  by_cases h : UM.tickE l tick = 0
  · obtain ⟨g, ht⟩ := UM.tick_zero h
    rw [h] at C1
    cases gd : QM.within day 0 73048
    · have e : UM.atE l day tick = 15 := by unfold UM.atE; rw [if_neg (by simp [h]), if_pos gd]
      have e2 : UM.atN l day tick = 0 := by unfold UM.atN; rw [if_neg (by rw [e]; decide)]
      rw [gd] at C2
      rw [e, e2]; clear h e e2 g gd ht hI
      go_enter Try.func10, Try.ntmps10
      go_wp2_with fail
      refine C1.out.mono ?_
      rintro e w1 ⟨rfl, b1⟩
      have HB := Lib.hid b1
      clear b1 C1
      go_wp2_with fail
      refine (C2.out _).mono ?_
      rintro e w2 ⟨rfl, rfl⟩
      go_wp2_with fail
      go_ret2
      exact ⟨rfl, HB.out⟩
    · have hd := QM.within_true.1 gd
      obtain ⟨e, e2⟩ := UM.at_ok g ht hd
      have C3 := Lib.hid (fun ww h => upriceof_any A l l.length cap rfl day tick g hd ht ww h)
      rw [gd] at C2
      have HI := Lib.hid hI
      rw [e, e2]
      generalize UM.priceN l day tick = z at *
      clear h e e2 g gd hd ht hI
      go_enter Try.func10, Try.ntmps10
      go_wp2_with fail
      refine C1.out.mono ?_
      rintro e w1 ⟨rfl, b1⟩
      have HB := Lib.hid b1
      have HI1 := Lib.hid (HI.out.below b1)
      clear b1 C1
      go_wp2_with fail
      refine (C2.out _).mono ?_
      rintro e w2 ⟨rfl, rfl⟩
      go_wp2_with fail
      refine (C3.out _ HI1.out).mono ?_
      rintro e w2 ⟨rfl, b2⟩
      have HB2 := Lib.hid (HB.out.trans (b2.mono HB.out.size))
      clear b2
      go_wp2_with fail
      go_ret2
      exact ⟨rfl, HB2.out⟩
  · have e : UM.atE l day tick = UM.tickE l tick := by unfold UM.atE; rw [if_pos h]
    have e2 : UM.atN l day tick = 0 := by unfold UM.atN; rw [if_neg (by rw [e]; exact h)]
    have hd : (UM.tickE l tick != 0) = true := by simpa using h
    rw [e, e2]
    generalize UM.tickE l tick = y at *
    clear e e2 h hI
    go_enter Try.func10, Try.ntmps10
    go_wp2_with fail
    refine C1.out.mono ?_
    rintro e w1 ⟨rfl, b1⟩
    have HB := Lib.hid b1
    clear b1 C1
    go_wp2_with fail
    go_ret2
    exact ⟨rfl, HB.out⟩
end Go.Proofs.Ytagmknahmkniaaa
