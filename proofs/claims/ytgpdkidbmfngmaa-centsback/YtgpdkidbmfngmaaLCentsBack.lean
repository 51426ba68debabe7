/- Whatever three ints it is given, contangolaw01.CentsBack returns true: Sub undoes Add, and dividing by the factor undoes a multiplication. No condition. -/
import Derived.Test.YtgpdkidbmfngmaaCentsF
import Derived.Test.YtgpdkidbmfngmaaCentsLaws
import Derived.ProofKit
import Derived.OpenShut
import Derived.ShutString
import Derived.ChangeOld
namespace Go.Proofs.Ytgpdkidbmfngmaa.centsBack
open Go.ChangeShapes Go.WideShapes Go.ChangeAt Go.RowKit
set_option linter.unusedVariables false

set_option maxHeartbeats 2000000 in
theorem walk (a b mode : Int) (w : World) (w0 : -9223372036854775808 ≤ a ∧ a ≤ 9223372036854775807) (w1 : -9223372036854775808 ≤ b ∧ b ≤ 9223372036854775807) (w2 : -9223372036854775808 ≤ mode ∧ mode ≤ 9223372036854775807) :
    Calls Try.prog 6 #[.int .i64 a, .int .i64 b, .int .i64 mode] w fun e w' => e = .returned (.bool true) ∧ Below w.heap.size w w' := by
  by_cases he : CM.addE a b = 0
  · obtain ⟨s1, s2⟩ := CM.add_back he
    cases ha : CM.fits a
    · go_enter Try.func6, Try.ntmps6
      go_wp2_with (first
        | (go_at_call 14; refine (add_any _ _ _).mono ?_; rintro e w' ⟨rfl, rfl⟩)
        | (go_at_call 16; refine (sub_any _ _ _).mono ?_; rintro e w' ⟨rfl, rfl⟩)
        | (go_at_call 20; refine (fits_any _ _).mono ?_; rintro e w' ⟨rfl, rfl⟩))
      first
        | (refine (goes1_any _).mono ?_
           rintro e w1 ⟨rfl, hb1⟩
           go_wp2
           go_ret
           exact ⟨rfl, hb1⟩)
        | (refine (muldiv_any _ _ _ _ _).mono ?_
           rintro e w1 ⟨rfl, hb1⟩
           go_wp2_with fail
           refine (muldiv_any _ _ _ _ _).mono ?_
           rintro e w2 ⟨rfl, hb2⟩
           go_wp2_with fail
           refine (goes1_any _).mono ?_
           rintro e w3 ⟨rfl, hb3⟩
           go_wp2
           go_ret
           exact ⟨rfl, (hb1.trans (hb2.mono hb1.size)).trans (hb3.mono (Nat.le_trans hb1.size hb2.size))⟩)
    · cases hb : CM.fits b
      · go_enter Try.func6, Try.ntmps6
        go_wp2_with (first
          | (go_at_call 14; refine (add_any _ _ _).mono ?_; rintro e w' ⟨rfl, rfl⟩)
          | (go_at_call 16; refine (sub_any _ _ _).mono ?_; rintro e w' ⟨rfl, rfl⟩)
          | (go_at_call 20; refine (fits_any _ _).mono ?_; rintro e w' ⟨rfl, rfl⟩))
        first
          | (refine (goes1_any _).mono ?_
             rintro e w1 ⟨rfl, hb1⟩
             go_wp2
             go_ret
             exact ⟨rfl, hb1⟩)
          | (refine (muldiv_any _ _ _ _ _).mono ?_
             rintro e w1 ⟨rfl, hb1⟩
             go_wp2_with fail
             refine (muldiv_any _ _ _ _ _).mono ?_
             rintro e w2 ⟨rfl, hb2⟩
             go_wp2_with fail
             refine (goes1_any _).mono ?_
             rintro e w3 ⟨rfl, hb3⟩
             go_wp2
             go_ret
             exact ⟨rfl, (hb1.trans (hb2.mono hb1.size)).trans (hb3.mono (Nat.le_trans hb1.size hb2.size))⟩)
      · by_cases h0 : b = 0
        · subst h0
          go_enter Try.func6, Try.ntmps6
          go_wp2_with (first
            | (go_at_call 14; refine (add_any _ _ _).mono ?_; rintro e w' ⟨rfl, rfl⟩)
            | (go_at_call 16; refine (sub_any _ _ _).mono ?_; rintro e w' ⟨rfl, rfl⟩)
            | (go_at_call 20; refine (fits_any _ _).mono ?_; rintro e w' ⟨rfl, rfl⟩))
          first
            | (refine (goes1_any _).mono ?_
               rintro e w1 ⟨rfl, hb1⟩
               go_wp2
               go_ret
               exact ⟨rfl, hb1⟩)
            | (refine (muldiv_any _ _ _ _ _).mono ?_
               rintro e w1 ⟨rfl, hb1⟩
               go_wp2_with fail
               refine (muldiv_any _ _ _ _ _).mono ?_
               rintro e w2 ⟨rfl, hb2⟩
               go_wp2_with fail
               refine (goes1_any _).mono ?_
               rintro e w3 ⟨rfl, hb3⟩
               go_wp2
               go_ret
               exact ⟨rfl, (hb1.trans (hb2.mono hb1.size)).trans (hb3.mono (Nat.le_trans hb1.size hb2.size))⟩)
        · by_cases h1 : mode < 1
          · have hz : (b == 0) = false := by simpa using h0
            clear h0
            go_enter Try.func6, Try.ntmps6
            go_wp2_with (first
              | (go_at_call 14; refine (add_any _ _ _).mono ?_; rintro e w' ⟨rfl, rfl⟩)
              | (go_at_call 16; refine (sub_any _ _ _).mono ?_; rintro e w' ⟨rfl, rfl⟩)
              | (go_at_call 20; refine (fits_any _ _).mono ?_; rintro e w' ⟨rfl, rfl⟩))
            first
              | (refine (goes1_any _).mono ?_
                 rintro e w1 ⟨rfl, hb1⟩
                 go_wp2
                 go_ret
                 exact ⟨rfl, hb1⟩)
              | (refine (muldiv_any _ _ _ _ _).mono ?_
                 rintro e w1 ⟨rfl, hb1⟩
                 go_wp2_with fail
                 refine (muldiv_any _ _ _ _ _).mono ?_
                 rintro e w2 ⟨rfl, hb2⟩
                 go_wp2_with fail
                 refine (goes1_any _).mono ?_
                 rintro e w3 ⟨rfl, hb3⟩
                 go_wp2
                 go_ret
                 exact ⟨rfl, (hb1.trans (hb2.mono hb1.size)).trans (hb3.mono (Nat.le_trans hb1.size hb2.size))⟩)
          · by_cases h5 : 5 < mode
            · have hz : (b == 0) = false := by simpa using h0
              clear h0
              go_enter Try.func6, Try.ntmps6
              go_wp2_with (first
                | (go_at_call 14; refine (add_any _ _ _).mono ?_; rintro e w' ⟨rfl, rfl⟩)
                | (go_at_call 16; refine (sub_any _ _ _).mono ?_; rintro e w' ⟨rfl, rfl⟩)
                | (go_at_call 20; refine (fits_any _ _).mono ?_; rintro e w' ⟨rfl, rfl⟩))
              first
                | (refine (goes1_any _).mono ?_
                   rintro e w1 ⟨rfl, hb1⟩
                   go_wp2
                   go_ret
                   exact ⟨rfl, hb1⟩)
                | (refine (muldiv_any _ _ _ _ _).mono ?_
                   rintro e w1 ⟨rfl, hb1⟩
                   go_wp2_with fail
                   refine (muldiv_any _ _ _ _ _).mono ?_
                   rintro e w2 ⟨rfl, hb2⟩
                   go_wp2_with fail
                   refine (goes1_any _).mono ?_
                   rintro e w3 ⟨rfl, hb3⟩
                   go_wp2
                   go_ret
                   exact ⟨rfl, (hb1.trans (hb2.mono hb1.size)).trans (hb3.mono (Nat.le_trans hb1.size hb2.size))⟩)
            · obtain ⟨m1, m2⟩ := CM.md_back ha hb h0 (by omega) (by omega : mode ≤ 5)
              obtain ⟨m3, m4⟩ := CM.md_back ha CM.fits_one (by decide) (by omega) (by omega : mode ≤ 5)
              have hz : (b == 0) = false := by simpa using h0
              clear h0
              go_enter Try.func6, Try.ntmps6
              go_wp2_with (first
                | (go_at_call 14; refine (add_any _ _ _).mono ?_; rintro e w' ⟨rfl, rfl⟩)
                | (go_at_call 16; refine (sub_any _ _ _).mono ?_; rintro e w' ⟨rfl, rfl⟩)
                | (go_at_call 20; refine (fits_any _ _).mono ?_; rintro e w' ⟨rfl, rfl⟩))
              first
                | (refine (goes1_any _).mono ?_
                   rintro e w1 ⟨rfl, hb1⟩
                   go_wp2
                   go_ret
                   exact ⟨rfl, hb1⟩)
                | (refine (muldiv_any _ _ _ _ _).mono ?_
                   rintro e w1 ⟨rfl, hb1⟩
                   go_wp2_with fail
                   refine (muldiv_any _ _ _ _ _).mono ?_
                   rintro e w2 ⟨rfl, hb2⟩
                   go_wp2_with fail
                   refine (goes1_any _).mono ?_
                   rintro e w3 ⟨rfl, hb3⟩
                   go_wp2
                   go_ret
                   exact ⟨rfl, (hb1.trans (hb2.mono hb1.size)).trans (hb3.mono (Nat.le_trans hb1.size hb2.size))⟩)
  · have he' : (CM.addE a b == 0) = false := by simpa using he
    clear he
    cases ha : CM.fits a
    · go_enter Try.func6, Try.ntmps6
      go_wp2_with (first
        | (go_at_call 14; refine (add_any _ _ _).mono ?_; rintro e w' ⟨rfl, rfl⟩)
        | (go_at_call 16; refine (sub_any _ _ _).mono ?_; rintro e w' ⟨rfl, rfl⟩)
        | (go_at_call 20; refine (fits_any _ _).mono ?_; rintro e w' ⟨rfl, rfl⟩))
      first
        | (refine (goes1_any _).mono ?_
           rintro e w1 ⟨rfl, hb1⟩
           go_wp2
           go_ret
           exact ⟨rfl, hb1⟩)
        | (refine (muldiv_any _ _ _ _ _).mono ?_
           rintro e w1 ⟨rfl, hb1⟩
           go_wp2_with fail
           refine (muldiv_any _ _ _ _ _).mono ?_
           rintro e w2 ⟨rfl, hb2⟩
           go_wp2_with fail
           refine (goes1_any _).mono ?_
           rintro e w3 ⟨rfl, hb3⟩
           go_wp2
           go_ret
           exact ⟨rfl, (hb1.trans (hb2.mono hb1.size)).trans (hb3.mono (Nat.le_trans hb1.size hb2.size))⟩)
    · cases hb : CM.fits b
      · go_enter Try.func6, Try.ntmps6
        go_wp2_with (first
          | (go_at_call 14; refine (add_any _ _ _).mono ?_; rintro e w' ⟨rfl, rfl⟩)
          | (go_at_call 16; refine (sub_any _ _ _).mono ?_; rintro e w' ⟨rfl, rfl⟩)
          | (go_at_call 20; refine (fits_any _ _).mono ?_; rintro e w' ⟨rfl, rfl⟩))
        first
          | (refine (goes1_any _).mono ?_
             rintro e w1 ⟨rfl, hb1⟩
             go_wp2
             go_ret
             exact ⟨rfl, hb1⟩)
          | (refine (muldiv_any _ _ _ _ _).mono ?_
             rintro e w1 ⟨rfl, hb1⟩
             go_wp2_with fail
             refine (muldiv_any _ _ _ _ _).mono ?_
             rintro e w2 ⟨rfl, hb2⟩
             go_wp2_with fail
             refine (goes1_any _).mono ?_
             rintro e w3 ⟨rfl, hb3⟩
             go_wp2
             go_ret
             exact ⟨rfl, (hb1.trans (hb2.mono hb1.size)).trans (hb3.mono (Nat.le_trans hb1.size hb2.size))⟩)
      · by_cases h0 : b = 0
        · subst h0
          go_enter Try.func6, Try.ntmps6
          go_wp2_with (first
            | (go_at_call 14; refine (add_any _ _ _).mono ?_; rintro e w' ⟨rfl, rfl⟩)
            | (go_at_call 16; refine (sub_any _ _ _).mono ?_; rintro e w' ⟨rfl, rfl⟩)
            | (go_at_call 20; refine (fits_any _ _).mono ?_; rintro e w' ⟨rfl, rfl⟩))
          first
            | (refine (goes1_any _).mono ?_
               rintro e w1 ⟨rfl, hb1⟩
               go_wp2
               go_ret
               exact ⟨rfl, hb1⟩)
            | (refine (muldiv_any _ _ _ _ _).mono ?_
               rintro e w1 ⟨rfl, hb1⟩
               go_wp2_with fail
               refine (muldiv_any _ _ _ _ _).mono ?_
               rintro e w2 ⟨rfl, hb2⟩
               go_wp2_with fail
               refine (goes1_any _).mono ?_
               rintro e w3 ⟨rfl, hb3⟩
               go_wp2
               go_ret
               exact ⟨rfl, (hb1.trans (hb2.mono hb1.size)).trans (hb3.mono (Nat.le_trans hb1.size hb2.size))⟩)
        · by_cases h1 : mode < 1
          · have hz : (b == 0) = false := by simpa using h0
            clear h0
            go_enter Try.func6, Try.ntmps6
            go_wp2_with (first
              | (go_at_call 14; refine (add_any _ _ _).mono ?_; rintro e w' ⟨rfl, rfl⟩)
              | (go_at_call 16; refine (sub_any _ _ _).mono ?_; rintro e w' ⟨rfl, rfl⟩)
              | (go_at_call 20; refine (fits_any _ _).mono ?_; rintro e w' ⟨rfl, rfl⟩))
            first
              | (refine (goes1_any _).mono ?_
                 rintro e w1 ⟨rfl, hb1⟩
                 go_wp2
                 go_ret
                 exact ⟨rfl, hb1⟩)
              | (refine (muldiv_any _ _ _ _ _).mono ?_
                 rintro e w1 ⟨rfl, hb1⟩
                 go_wp2_with fail
                 refine (muldiv_any _ _ _ _ _).mono ?_
                 rintro e w2 ⟨rfl, hb2⟩
                 go_wp2_with fail
                 refine (goes1_any _).mono ?_
                 rintro e w3 ⟨rfl, hb3⟩
                 go_wp2
                 go_ret
                 exact ⟨rfl, (hb1.trans (hb2.mono hb1.size)).trans (hb3.mono (Nat.le_trans hb1.size hb2.size))⟩)
          · by_cases h5 : 5 < mode
            · have hz : (b == 0) = false := by simpa using h0
              clear h0
              go_enter Try.func6, Try.ntmps6
              go_wp2_with (first
                | (go_at_call 14; refine (add_any _ _ _).mono ?_; rintro e w' ⟨rfl, rfl⟩)
                | (go_at_call 16; refine (sub_any _ _ _).mono ?_; rintro e w' ⟨rfl, rfl⟩)
                | (go_at_call 20; refine (fits_any _ _).mono ?_; rintro e w' ⟨rfl, rfl⟩))
              first
                | (refine (goes1_any _).mono ?_
                   rintro e w1 ⟨rfl, hb1⟩
                   go_wp2
                   go_ret
                   exact ⟨rfl, hb1⟩)
                | (refine (muldiv_any _ _ _ _ _).mono ?_
                   rintro e w1 ⟨rfl, hb1⟩
                   go_wp2_with fail
                   refine (muldiv_any _ _ _ _ _).mono ?_
                   rintro e w2 ⟨rfl, hb2⟩
                   go_wp2_with fail
                   refine (goes1_any _).mono ?_
                   rintro e w3 ⟨rfl, hb3⟩
                   go_wp2
                   go_ret
                   exact ⟨rfl, (hb1.trans (hb2.mono hb1.size)).trans (hb3.mono (Nat.le_trans hb1.size hb2.size))⟩)
            · obtain ⟨m1, m2⟩ := CM.md_back ha hb h0 (by omega) (by omega : mode ≤ 5)
              obtain ⟨m3, m4⟩ := CM.md_back ha CM.fits_one (by decide) (by omega) (by omega : mode ≤ 5)
              have hz : (b == 0) = false := by simpa using h0
              clear h0
              go_enter Try.func6, Try.ntmps6
              go_wp2_with (first
                | (go_at_call 14; refine (add_any _ _ _).mono ?_; rintro e w' ⟨rfl, rfl⟩)
                | (go_at_call 16; refine (sub_any _ _ _).mono ?_; rintro e w' ⟨rfl, rfl⟩)
                | (go_at_call 20; refine (fits_any _ _).mono ?_; rintro e w' ⟨rfl, rfl⟩))
              first
                | (refine (goes1_any _).mono ?_
                   rintro e w1 ⟨rfl, hb1⟩
                   go_wp2
                   go_ret
                   exact ⟨rfl, hb1⟩)
                | (refine (muldiv_any _ _ _ _ _).mono ?_
                   rintro e w1 ⟨rfl, hb1⟩
                   go_wp2_with fail
                   refine (muldiv_any _ _ _ _ _).mono ?_
                   rintro e w2 ⟨rfl, hb2⟩
                   go_wp2_with fail
                   refine (goes1_any _).mono ?_
                   rintro e w3 ⟨rfl, hb3⟩
                   go_wp2
                   go_ret
                   exact ⟨rfl, (hb1.trans (hb2.mono hb1.size)).trans (hb3.mono (Nat.le_trans hb1.size hb2.size))⟩)

theorem own : ownKnob Try.prog.godebug = none := by kernel_rfl
theorem laidOut : laidOutB Try.prog = true := by kernel_rfl
set_option maxRecDepth 100000 in
theorem lifted (os : Os) (started : os.Started) (H : Type) (enc : TypeId × Value → H) :
    ReturnsInHanded {} Try.checked os 6 .any (Rows.centsBackSpec.pre6 enc Try.prog Try.f6 Rows.centsBackRow.domain false) (Rows.centsBackSpec.post enc Try.prog Try.f6 false true false false) := by
  refine returnsInHanded_of_change (C := Try.checked) own started (by kernel_rfl) Try.func6
    (ChangeSpec.witness6 (enc := enc) (C := Try.checked) false ⟨#[], #[.int .i64 0, .int .i64 0, .int .i64 0], []⟩ 8 (by kernel_rfl) (by kernel_rfl) (by kernel_rfl) (by kernel_rfl)) ?_
  intro W base args ds gs before hval0 hW hcnd _
  have hval : ∀ (j : Nat) t v, Try.f6.params[j]? = some t → args[j]? = some v → Value.okWide Try.prog W .any base t v := hval0
  have hW' := hW
  obtain ⟨p, q, hA0, hV, rfl, hfz, hnd⟩ := hW
  have hA : DataW.TrodAll enc Try.prog W 0 (fun _ => true) true Try.f6.params.toList args.toList ds p := hA0
  rw [Try.params6] at hA hval
  obtain ⟨v0, vs0, d0, ds0, p0, q0, hargs, rfl, rfl, h0, r0⟩ := trodAll_cons hA
  obtain ⟨v1, vs1, d1, ds1, p1, q1, rfl, rfl, rfl, h1, r1⟩ := trodAll_cons r0
  obtain ⟨v2, vs2, d2, ds2, p2, q2, rfl, rfl, rfl, h2, r2⟩ := trodAll_cons r1
  obtain ⟨rfl, rfl, rfl⟩ := trodAll_nil r2
  obtain rfl : args = #[v0, v1, v2] := by cases args; simp_all
  obtain ⟨rfl, rfl⟩ := trodVars_none hV
  obtain ⟨a0, rfl, rfl, rfl, w0⟩ := open_int Try.underlying3 (hval 0 3 v0 rfl rfl) h0
  obtain ⟨a1, rfl, rfl, rfl, w1⟩ := open_int Try.underlying3 (hval 1 3 v1 rfl rfl) h1
  obtain ⟨a2, rfl, rfl, rfl, w2⟩ := open_int Try.underlying3 (hval 2 3 v2 rfl rfl) h2
  clear hA0 hval0
  refine (walk a0 a1 a2 W (bounds_i64 w0) (bounds_i64 w1) (bounds_i64 w2)).mono fun e W' ⟨he, bel⟩ => ?_
  subst he
  exact ⟨_, rfl, _, _, _, [], _, [], hW', trodAll_mk1 (shut_bool Try.underlying4 _), (trodAll_cons_mk (shut_int Try.underlying3 w0) (trodAll_cons_mk (shut_int Try.underlying3 w1) (trodAll_cons_mk (shut_int Try.underlying3 w2) trodAll_mk0))), rfl, bel.frame _, fun h => by cases h⟩

theorem over : Rows.centsBackRow.holds Try.pinned (OpenSpec.ofChange Rows.centsBackSpec) :=
  OpenClaim.holds_of_wide 6 Try.f6 rfl rfl rfl rfl rfl rfl rfl ⟨rfl, rfl, rfl, rfl, rfl⟩ rfl rfl rfl rfl rfl (by kernel_rfl) Try.func6 (by kernel_rfl)
    (of_decide_eq_true (by kernel_rfl)) (by unfold Func.isWrapper; first | (rw [if_pos (by decide +kernel)]; kernel_rfl) | (rw [if_neg (by decide +kernel)]; exact ⟨rfl, rfl⟩))
    (fun os started H enc _ => lifted os started H enc)

theorem centsBack_holds : Rows.CentsBackSaid := over
end Go.Proofs.Ytgpdkidbmfngmaa.centsBack
