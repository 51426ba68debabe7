/- Whatever three ints it is given, contangolaw01.CentsModes returns true: the results of the five rounding modes lie to one another as promised. No condition. -/
import Derived.Test.YtgpdkidbmfngmaaCentsF
import Derived.Test.YtgpdkidbmfngmaaCentsLaws
import Derived.ProofKit
import Derived.OpenShut
import Derived.ShutString
import Derived.ChangeOld
namespace Go.Proofs.Ytgpdkidbmfngmaa.centsModes
open Go.ChangeShapes Go.WideShapes Go.ChangeAt Go.RowKit
set_option linter.unusedVariables false

theorem five {w w1 w2 w3 w4 w5 : World} (h1 : Below w.heap.size w w1) (h2 : Below w1.heap.size w1 w2) (h3 : Below w2.heap.size w2 w3) (h4 : Below w3.heap.size w3 w4) (h5 : Below w4.heap.size w4 w5) :
    Below w.heap.size w w5 := by
  have a := h1.trans (h2.mono h1.size)
  have b := a.trans (h3.mono a.size)
  have c := b.trans (h4.mono b.size)
  exact c.trans (h5.mono c.size)

set_option maxHeartbeats 4000000 in
theorem walk (a b c : Int) (w : World) (w0 : -9223372036854775808 ≤ a ∧ a ≤ 9223372036854775807) (w1 : -9223372036854775808 ≤ b ∧ b ≤ 9223372036854775807) (w2 : -9223372036854775808 ≤ c ∧ c ≤ 9223372036854775807) :
    Calls Try.prog 7 #[.int .i64 a, .int .i64 b, .int .i64 c] w fun e w' => e = .returned (.bool true) ∧ Below w.heap.size w w' := by
  by_cases e1 : CM.mdE a b c 1 = 0
  · by_cases e3 : CM.mdE a b c 3 = 0
    · by_cases e4 : CM.mdE a b c 4 = 0
      · by_cases e2 : CM.mdE a b c 2 = 0
        · by_cases e5 : CM.mdE a b c 5 = 0
          · have hL := CM.md_lie e1 e2 e3 e4 e5
            obtain ⟨q, ⟨q0, q1⟩, h⟩ := hL
            rcases h with ⟨n3, n4, n1, n2, n5⟩ | ⟨n3, n4, n1, n2, n5 | n5⟩ | ⟨n3, n4, n1, n2, n5⟩ | ⟨n3, n4, n1, n2, n5 | n5⟩
            · go_enter Try.func7, Try.ntmps7
              go_wp2_with fail
              refine (muldiv_any _ _ _ _ _).mono ?_
              rintro e w1 ⟨rfl, hb1⟩
              go_wp2_with fail
              refine (muldiv_any _ _ _ _ _).mono ?_
              rintro e w2 ⟨rfl, hb2⟩
              go_wp2_with fail
              refine (muldiv_any _ _ _ _ _).mono ?_
              rintro e w3 ⟨rfl, hb3⟩
              go_wp2_with fail
              refine (muldiv_any _ _ _ _ _).mono ?_
              rintro e w4 ⟨rfl, hb4⟩
              go_wp2_with fail
              refine (muldiv_any _ _ _ _ _).mono ?_
              rintro e w5 ⟨rfl, hb5⟩
              have hb := five hb1 hb2 hb3 hb4 hb5
              clear hb1 hb2 hb3 hb4 hb5
              go_wp2_with fail
              all_goals
                refine (goes1_any _).mono ?_
                rintro e w6 ⟨rfl, hb6⟩
                go_wp2
                go_ret
                exact ⟨rfl, hb.trans (hb6.mono hb.size)⟩
            · go_enter Try.func7, Try.ntmps7
              go_wp2_with fail
              refine (muldiv_any _ _ _ _ _).mono ?_
              rintro e w1 ⟨rfl, hb1⟩
              go_wp2_with fail
              refine (muldiv_any _ _ _ _ _).mono ?_
              rintro e w2 ⟨rfl, hb2⟩
              go_wp2_with fail
              refine (muldiv_any _ _ _ _ _).mono ?_
              rintro e w3 ⟨rfl, hb3⟩
              go_wp2_with fail
              refine (muldiv_any _ _ _ _ _).mono ?_
              rintro e w4 ⟨rfl, hb4⟩
              go_wp2_with fail
              refine (muldiv_any _ _ _ _ _).mono ?_
              rintro e w5 ⟨rfl, hb5⟩
              have hb := five hb1 hb2 hb3 hb4 hb5
              clear hb1 hb2 hb3 hb4 hb5
              go_wp2_with fail
              all_goals
                refine (goes1_any _).mono ?_
                rintro e w6 ⟨rfl, hb6⟩
                go_wp2
                go_ret
                exact ⟨rfl, hb.trans (hb6.mono hb.size)⟩
            · go_enter Try.func7, Try.ntmps7
              go_wp2_with fail
              refine (muldiv_any _ _ _ _ _).mono ?_
              rintro e w1 ⟨rfl, hb1⟩
              go_wp2_with fail
              refine (muldiv_any _ _ _ _ _).mono ?_
              rintro e w2 ⟨rfl, hb2⟩
              go_wp2_with fail
              refine (muldiv_any _ _ _ _ _).mono ?_
              rintro e w3 ⟨rfl, hb3⟩
              go_wp2_with fail
              refine (muldiv_any _ _ _ _ _).mono ?_
              rintro e w4 ⟨rfl, hb4⟩
              go_wp2_with fail
              refine (muldiv_any _ _ _ _ _).mono ?_
              rintro e w5 ⟨rfl, hb5⟩
              have hb := five hb1 hb2 hb3 hb4 hb5
              clear hb1 hb2 hb3 hb4 hb5
              go_wp2_with fail
              all_goals
                refine (goes1_any _).mono ?_
                rintro e w6 ⟨rfl, hb6⟩
                go_wp2
                go_ret
                exact ⟨rfl, hb.trans (hb6.mono hb.size)⟩
            · go_enter Try.func7, Try.ntmps7
              go_wp2_with fail
              refine (muldiv_any _ _ _ _ _).mono ?_
              rintro e w1 ⟨rfl, hb1⟩
              go_wp2_with fail
              refine (muldiv_any _ _ _ _ _).mono ?_
              rintro e w2 ⟨rfl, hb2⟩
              go_wp2_with fail
              refine (muldiv_any _ _ _ _ _).mono ?_
              rintro e w3 ⟨rfl, hb3⟩
              go_wp2_with fail
              refine (muldiv_any _ _ _ _ _).mono ?_
              rintro e w4 ⟨rfl, hb4⟩
              go_wp2_with fail
              refine (muldiv_any _ _ _ _ _).mono ?_
              rintro e w5 ⟨rfl, hb5⟩
              have hb := five hb1 hb2 hb3 hb4 hb5
              clear hb1 hb2 hb3 hb4 hb5
              go_wp2_with fail
              all_goals
                refine (goes1_any _).mono ?_
                rintro e w6 ⟨rfl, hb6⟩
                go_wp2
                go_ret
                exact ⟨rfl, hb.trans (hb6.mono hb.size)⟩
            · go_enter Try.func7, Try.ntmps7
              go_wp2_with fail
              refine (muldiv_any _ _ _ _ _).mono ?_
              rintro e w1 ⟨rfl, hb1⟩
              go_wp2_with fail
              refine (muldiv_any _ _ _ _ _).mono ?_
              rintro e w2 ⟨rfl, hb2⟩
              go_wp2_with fail
              refine (muldiv_any _ _ _ _ _).mono ?_
              rintro e w3 ⟨rfl, hb3⟩
              go_wp2_with fail
              refine (muldiv_any _ _ _ _ _).mono ?_
              rintro e w4 ⟨rfl, hb4⟩
              go_wp2_with fail
              refine (muldiv_any _ _ _ _ _).mono ?_
              rintro e w5 ⟨rfl, hb5⟩
              have hb := five hb1 hb2 hb3 hb4 hb5
              clear hb1 hb2 hb3 hb4 hb5
              go_wp2_with fail
              all_goals
                refine (goes1_any _).mono ?_
                rintro e w6 ⟨rfl, hb6⟩
                go_wp2
                go_ret
                exact ⟨rfl, hb.trans (hb6.mono hb.size)⟩
            · go_enter Try.func7, Try.ntmps7
              go_wp2_with fail
              refine (muldiv_any _ _ _ _ _).mono ?_
              rintro e w1 ⟨rfl, hb1⟩
              go_wp2_with fail
              refine (muldiv_any _ _ _ _ _).mono ?_
              rintro e w2 ⟨rfl, hb2⟩
              go_wp2_with fail
              refine (muldiv_any _ _ _ _ _).mono ?_
              rintro e w3 ⟨rfl, hb3⟩
              go_wp2_with fail
              refine (muldiv_any _ _ _ _ _).mono ?_
              rintro e w4 ⟨rfl, hb4⟩
              go_wp2_with fail
              refine (muldiv_any _ _ _ _ _).mono ?_
              rintro e w5 ⟨rfl, hb5⟩
              have hb := five hb1 hb2 hb3 hb4 hb5
              clear hb1 hb2 hb3 hb4 hb5
              go_wp2_with fail
              all_goals
                refine (goes1_any _).mono ?_
                rintro e w6 ⟨rfl, hb6⟩
                go_wp2
                go_ret
                exact ⟨rfl, hb.trans (hb6.mono hb.size)⟩
          · have e5' : (CM.mdE a b c 5 != 0) = true := by simpa using e5
            clear e5
            go_enter Try.func7, Try.ntmps7
            go_wp2_with fail
            refine (muldiv_any _ _ _ _ _).mono ?_
            rintro e w1 ⟨rfl, hb1⟩
            go_wp2_with fail
            refine (muldiv_any _ _ _ _ _).mono ?_
            rintro e w2 ⟨rfl, hb2⟩
            go_wp2_with fail
            refine (muldiv_any _ _ _ _ _).mono ?_
            rintro e w3 ⟨rfl, hb3⟩
            go_wp2_with fail
            refine (muldiv_any _ _ _ _ _).mono ?_
            rintro e w4 ⟨rfl, hb4⟩
            go_wp2_with fail
            refine (muldiv_any _ _ _ _ _).mono ?_
            rintro e w5 ⟨rfl, hb5⟩
            have hb := five hb1 hb2 hb3 hb4 hb5
            clear hb1 hb2 hb3 hb4 hb5
            go_wp2_with fail
            all_goals
              refine (goes1_any _).mono ?_
              rintro e w6 ⟨rfl, hb6⟩
              go_wp2
              go_ret
              exact ⟨rfl, hb.trans (hb6.mono hb.size)⟩
        · have e2' : (CM.mdE a b c 2 != 0) = true := by simpa using e2
          clear e2
          go_enter Try.func7, Try.ntmps7
          go_wp2_with fail
          refine (muldiv_any _ _ _ _ _).mono ?_
          rintro e w1 ⟨rfl, hb1⟩
          go_wp2_with fail
          refine (muldiv_any _ _ _ _ _).mono ?_
          rintro e w2 ⟨rfl, hb2⟩
          go_wp2_with fail
          refine (muldiv_any _ _ _ _ _).mono ?_
          rintro e w3 ⟨rfl, hb3⟩
          go_wp2_with fail
          refine (muldiv_any _ _ _ _ _).mono ?_
          rintro e w4 ⟨rfl, hb4⟩
          go_wp2_with fail
          refine (muldiv_any _ _ _ _ _).mono ?_
          rintro e w5 ⟨rfl, hb5⟩
          have hb := five hb1 hb2 hb3 hb4 hb5
          clear hb1 hb2 hb3 hb4 hb5
          go_wp2_with fail
          all_goals
            refine (goes1_any _).mono ?_
            rintro e w6 ⟨rfl, hb6⟩
            go_wp2
            go_ret
            exact ⟨rfl, hb.trans (hb6.mono hb.size)⟩
      · have e4' : (CM.mdE a b c 4 != 0) = true := by simpa using e4
        clear e4
        go_enter Try.func7, Try.ntmps7
        go_wp2_with fail
        refine (muldiv_any _ _ _ _ _).mono ?_
        rintro e w1 ⟨rfl, hb1⟩
        go_wp2_with fail
        refine (muldiv_any _ _ _ _ _).mono ?_
        rintro e w2 ⟨rfl, hb2⟩
        go_wp2_with fail
        refine (muldiv_any _ _ _ _ _).mono ?_
        rintro e w3 ⟨rfl, hb3⟩
        go_wp2_with fail
        refine (muldiv_any _ _ _ _ _).mono ?_
        rintro e w4 ⟨rfl, hb4⟩
        go_wp2_with fail
        refine (muldiv_any _ _ _ _ _).mono ?_
        rintro e w5 ⟨rfl, hb5⟩
        have hb := five hb1 hb2 hb3 hb4 hb5
        clear hb1 hb2 hb3 hb4 hb5
        go_wp2_with fail
        all_goals
          refine (goes1_any _).mono ?_
          rintro e w6 ⟨rfl, hb6⟩
          go_wp2
          go_ret
          exact ⟨rfl, hb.trans (hb6.mono hb.size)⟩
    · have e3' : (CM.mdE a b c 3 != 0) = true := by simpa using e3
      clear e3
      go_enter Try.func7, Try.ntmps7
      go_wp2_with fail
      refine (muldiv_any _ _ _ _ _).mono ?_
      rintro e w1 ⟨rfl, hb1⟩
      go_wp2_with fail
      refine (muldiv_any _ _ _ _ _).mono ?_
      rintro e w2 ⟨rfl, hb2⟩
      go_wp2_with fail
      refine (muldiv_any _ _ _ _ _).mono ?_
      rintro e w3 ⟨rfl, hb3⟩
      go_wp2_with fail
      refine (muldiv_any _ _ _ _ _).mono ?_
      rintro e w4 ⟨rfl, hb4⟩
      go_wp2_with fail
      refine (muldiv_any _ _ _ _ _).mono ?_
      rintro e w5 ⟨rfl, hb5⟩
      have hb := five hb1 hb2 hb3 hb4 hb5
      clear hb1 hb2 hb3 hb4 hb5
      go_wp2_with fail
      all_goals
        refine (goes1_any _).mono ?_
        rintro e w6 ⟨rfl, hb6⟩
        go_wp2
        go_ret
        exact ⟨rfl, hb.trans (hb6.mono hb.size)⟩
  · have e1' : (CM.mdE a b c 1 == 0) = false := by simpa using e1
    have e1'' : (CM.mdE a b c 1 != 0) = true := by simpa using e1
    have e2' : (CM.mdE a b c 2 != 0) = true := by simpa using CM.md_down_err (mode := 2) e1 (by decide) (by decide)
    have e3' : (CM.mdE a b c 3 != 0) = true := by simpa using CM.md_down_err (mode := 3) e1 (by decide) (by decide)
    have e4' : (CM.mdE a b c 4 != 0) = true := by simpa using CM.md_down_err (mode := 4) e1 (by decide) (by decide)
    have e5' : (CM.mdE a b c 5 != 0) = true := by simpa using CM.md_down_err (mode := 5) e1 (by decide) (by decide)
    clear e1
    go_enter Try.func7, Try.ntmps7
    go_wp2_with fail
    refine (muldiv_any _ _ _ _ _).mono ?_
    rintro e w1 ⟨rfl, hb1⟩
    go_wp2_with fail
    refine (muldiv_any _ _ _ _ _).mono ?_
    rintro e w2 ⟨rfl, hb2⟩
    go_wp2_with fail
    refine (muldiv_any _ _ _ _ _).mono ?_
    rintro e w3 ⟨rfl, hb3⟩
    go_wp2_with fail
    refine (muldiv_any _ _ _ _ _).mono ?_
    rintro e w4 ⟨rfl, hb4⟩
    go_wp2_with fail
    refine (muldiv_any _ _ _ _ _).mono ?_
    rintro e w5 ⟨rfl, hb5⟩
    have hb := five hb1 hb2 hb3 hb4 hb5
    clear hb1 hb2 hb3 hb4 hb5
    go_wp2_with fail
    all_goals
      refine (goes1_any _).mono ?_
      rintro e w6 ⟨rfl, hb6⟩
      go_wp2
      go_ret
      exact ⟨rfl, hb.trans (hb6.mono hb.size)⟩

theorem own : ownKnob Try.prog.godebug = none := by kernel_rfl
theorem laidOut : laidOutB Try.prog = true := by kernel_rfl
set_option maxRecDepth 100000 in
theorem lifted (os : Os) (started : os.Started) (H : Type) (enc : TypeId × Value → H) :
    ReturnsInHanded {} Try.checked os 7 .any (Rows.centsModesSpec.pre6 enc Try.prog Try.f7 Rows.centsModesRow.domain false) (Rows.centsModesSpec.post enc Try.prog Try.f7 false true false false) := by
  refine returnsInHanded_of_change (C := Try.checked) own started (by kernel_rfl) Try.func7
    (ChangeSpec.witness6 (enc := enc) (C := Try.checked) false ⟨#[], #[.int .i64 0, .int .i64 0, .int .i64 0], []⟩ 8 (by kernel_rfl) (by kernel_rfl) (by kernel_rfl) (by kernel_rfl)) ?_
  intro W base args ds gs before hval0 hW hcnd _
  have hval : ∀ (j : Nat) t v, Try.f7.params[j]? = some t → args[j]? = some v → Value.okWide Try.prog W .any base t v := hval0
  have hW' := hW
  obtain ⟨p, q, hA0, hV, rfl, hfz, hnd⟩ := hW
  have hA : DataW.TrodAll enc Try.prog W 0 (fun _ => true) true Try.f7.params.toList args.toList ds p := hA0
  rw [Try.params7] at hA hval
  obtain ⟨v0, vs0, d0, ds0, p0, q0, hargs, rfl, rfl, h0, r0⟩ := trodAll_cons hA
  obtain ⟨v1, vs1, d1, ds1, p1, q1, rfl, rfl, rfl, h1, r1⟩ := trodAll_cons r0
  obtain ⟨v2, vs2, d2, ds2, p2, q2, rfl, rfl, rfl, h2, r2⟩ := trodAll_cons r1
  obtain ⟨rfl, rfl, rfl⟩ := trodAll_nil r2
  obtain rfl : args = #[v0, v1, v2] := by cases args; simp_all
  obtain ⟨rfl, rfl⟩ := trodVars_none hV
  obtain ⟨a0, rfl, rfl, rfl, w0⟩ := open_int Try.underlying3 (hval 0 3 v0 rfl rfl) h0
  obtain ⟨a1, rfl, rfl, rfl, w1⟩ := open_int Try.underlying3 (hval 1 3 v1 rfl rfl) h1
  obtain ⟨a2, rfl, rfl, rfl, w2⟩ := open_int Try.underlying3 (hval 2 3 v2 rfl rfl) h2
  clear hA0 hval0
  refine (walk a0 a1 a2 W (bounds_i64 w0) (bounds_i64 w1) (bounds_i64 w2)).mono fun e W' ⟨he, bel⟩ => ?_
  subst he
  exact ⟨_, rfl, _, _, _, [], _, [], hW', trodAll_mk1 (shut_bool Try.underlying4 _), (trodAll_cons_mk (shut_int Try.underlying3 w0) (trodAll_cons_mk (shut_int Try.underlying3 w1) (trodAll_cons_mk (shut_int Try.underlying3 w2) trodAll_mk0))), rfl, bel.frame _, fun h => by cases h⟩

theorem over : Rows.centsModesRow.holds Try.pinned (OpenSpec.ofChange Rows.centsModesSpec) :=
  OpenClaim.holds_of_wide 7 Try.f7 rfl rfl rfl rfl rfl rfl rfl ⟨rfl, rfl, rfl, rfl, rfl⟩ rfl rfl rfl rfl rfl (by kernel_rfl) Try.func7 (by kernel_rfl)
    (of_decide_eq_true (by kernel_rfl)) (by unfold Func.isWrapper; first | (rw [if_pos (by decide +kernel)]; kernel_rfl) | (rw [if_neg (by decide +kernel)]; exact ⟨rfl, rfl⟩))
    (fun os started H enc _ => lifted os started H enc)

theorem centsModes_holds : Rows.CentsModesSaid := over
end Go.Proofs.Ytgpdkidbmfngmaa.centsModes
