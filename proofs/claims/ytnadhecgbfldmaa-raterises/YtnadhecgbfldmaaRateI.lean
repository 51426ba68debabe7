/- Contract of layer 8's examples. -/
import Derived.Test.YtnadhecgbfldmaaRateG
namespace Go.Proofs.Ytnadhecgbfldmaa
open Go.RowKit Go.Recs
set_option linter.unusedVariables false

def usd : ByteArray := ⟨#[117, 115, 100]⟩
def eur : ByteArray := ⟨#[101, 117, 114]⟩
def two : List RM.Rate := [(usd, 1000000), (eur, 1080000)]
theorem usd_eur : (usd.toList == eur.toList) = false := by
  rw [L_toList, L_toList]; decide
theorem two_ok : RM.checkE two = 0 := by
  apply RM.check_ok
  · simp [two]
  · decide
  · have h0 : RM.twice two 0 = false := rfl
    have h1 : RM.twice two 1 = false := by
      have : RM.twice two 1 = RM.fB [(usd, 1000000)] eur := rfl
      rw [this]
      refine (RM.find_no fun j hj => ?_).2
      have : j = 0 := by simp at hj; omega
      subst this
      exact usd_eur
    have : (List.range two.length).any (RM.twice two) = (RM.twice two 0 || (RM.twice two 1 || false)) := rfl
    unfold RM.dupU
    rw [this, h0, h1]; rfl
  · exact ⟨by decide, rfl⟩
theorem two_cur0 : RM.isCur two 0 = true := by decide
theorem two_cur1 : RM.isCur two 1 = true := by decide
theorem two_a : RM.cvN two 100 1 0 5 = 108 ∧ RM.cvE two 100 1 0 5 = 0 := by
  rw [(RM.cv_in two_ok two_cur1 two_cur0).1, (RM.cv_in two_ok two_cur1 two_cur0).2]; decide
theorem two_b : RM.cvN two 100 0 1 5 = 93 ∧ RM.cvE two 100 0 1 5 = 0 := by
  rw [(RM.cv_in two_ok two_cur0 two_cur1).1, (RM.cv_in two_ok two_cur0 two_cur1).2]; decide
theorem two_c : RM.cvN two 1000000 0 1 5 = 925926 ∧ RM.cvE two 1000000 0 1 5 = 0 := by
  rw [(RM.cv_in two_ok two_cur0 two_cur1).1, (RM.cv_in two_ok two_cur0 two_cur1).2]; decide
theorem two_d : RM.cvN two 100 0 0 5 = 100 ∧ RM.cvE two 100 0 0 5 = 0 := by
  rw [(RM.cv_in two_ok two_cur0 two_cur0).1, (RM.cv_in two_ok two_cur0 two_cur0).2]; decide
theorem two_t : RM.toN two [100, 100] 5 = 208 ∧ RM.toE two [100, 100] 5 = 0 := by
  have b0 : RM.bE two [100, 100] 5 0 = 0 := two_d.2
  have b1 : RM.bE two [100, 100] 5 1 = 0 := two_a.2
  have f1 : RM.fe two [100, 100] 5 1 = 0 := RM.fe_step rfl b0
  have f2 : RM.fe two [100, 100] 5 2 = 0 := RM.fe_step f1 b1
  have hc : RM.conv two [100, 100] 5 2 = [RM.cvN two 100 0 0 5, RM.cvN two 100 1 0 5] := rfl
  obtain ⟨h1, h2⟩ := RM.to_sum (l := two) (n := [100, 100]) (mode := 5) two_ok (by decide) f2
  have e : RM.conv two [100, 100] 5 ([100, 100] : List Int).length = [100, 108] := by
    show RM.conv two [100, 100] 5 2 = _
    rw [hc, two_a.1, two_d.1]
  rw [h1, h2, e]; decide
theorem rates_two (w : World) : Rates (w.alloc (.cells #[.string ⟨#[117, 115, 100]⟩, .int .i64 1000000, .string ⟨#[101, 117, 114]⟩, .int .i64 1080000] 59)) (some ⟨w.heap.size, 0, none⟩) two := by
  refine ⟨⟨by unfold maxLen; simp [two], ?_, .inr ⟨_, _, rfl, by simp, fun i j hi hj => ?_⟩⟩, ?_⟩
  · intro r hr; obtain ⟨a, ha, rfl⟩ := List.mem_map.1 hr; rfl
  · rw [Nat.zero_add]
    have h1 : i = 0 ∨ i = 1 := by simp [two] at hi; omega
    have h2 : j = 0 ∨ j = 1 := by omega
    rcases h1 with rfl | rfl <;> rcases h2 with rfl | rfl <;> simp [two, rateV, usd, eur]
  · intro r hr
    simp [two] at hr
    rcases hr with rfl | rfl
    · exact ⟨by unfold maxLen; decide, by decide, by decide⟩
    · exact ⟨by unfold maxLen; decide, by decide, by decide⟩
theorem ints_pair (x y : Int) (w : World) (hx : -9223372036854775808 ≤ x ∧ x ≤ 9223372036854775807) (hy : -9223372036854775808 ≤ y ∧ y ≤ 9223372036854775807) :
    Ints (w.alloc (.cells #[.int .i64 x, .int .i64 y] 3)) (some ⟨w.heap.size, 0, none⟩) [x, y] := by
  refine ⟨by unfold maxLen; simp, by simp; omega, .inr ⟨_, _, rfl, by simp, fun i hi => ?_⟩⟩
  rw [Nat.zero_add]
  have : i = 0 ∨ i = 1 := by simp at hi; omega
  rcases this with rfl | rfl <;> simp

theorem none_checks (w : World) : Calls Try.prog 31 #[.slice none 0 0] w fun e w' => e = .returned (.int .i64 8) ∧ Below w.heap.size w w' :=
  rtcheck_any none [] 0 w ⟨Recs.nil _ _ _, by simp⟩ (by simp)

set_option maxHeartbeats 2000000 in
theorem goes8_any (w : World) : Calls Try.prog 33 #[] w fun e w' => e = .returned (.bool true) ∧ Below w.heap.size w w' := by
  have CA : Hid (∀ A ww, Rates ww A two → Calls Try.prog 34 #[.slice A 2 2, .int .i64 100, .int .i64 1, .int .i64 0, .int .i64 5] ww fun e w' => e = .returned (.tuple #[.int .i64 108, .int .i64 0]) ∧ Below ww.heap.size ww w') := Lib.hid (fun A ww h => by
    have := convert_any A two 2 100 1 0 5 ww h (by simp [two]); rw [two_a.1, two_a.2] at this; exact this)
  have CB : Hid (∀ A ww, Rates ww A two → Calls Try.prog 34 #[.slice A 2 2, .int .i64 100, .int .i64 0, .int .i64 1, .int .i64 5] ww fun e w' => e = .returned (.tuple #[.int .i64 93, .int .i64 0]) ∧ Below ww.heap.size ww w') := Lib.hid (fun A ww h => by
    have := convert_any A two 2 100 0 1 5 ww h (by simp [two]); rw [two_b.1, two_b.2] at this; exact this)
  have CC : Hid (∀ A ww, Rates ww A two → Calls Try.prog 38 #[.slice A 2 2, .int .i64 0, .int .i64 1] ww fun e w' => e = .returned (.tuple #[.int .i64 925926, .int .i64 0]) ∧ Below ww.heap.size ww w') := Lib.hid (fun A ww h => by
    have := cross_any A two 2 0 1 ww h (by simp [two]); rw [two_c.1, two_c.2] at this; exact this)
  have CT : Hid (∀ A C ww, Rates ww A two → Ints ww C [100, 100] → Calls Try.prog 40 #[.slice A 2 2, .slice C 2 2, .int .i64 5] ww fun e w' => e = .returned (.tuple #[.int .i64 208, .int .i64 0]) ∧ Below ww.heap.size ww w') := Lib.hid (fun A C ww h h2 => by
    have := total_any A C two [100, 100] 2 2 5 ww h (by simp [two]) h2; rw [two_t.1, two_t.2] at this; exact this)
  go_enter Try.func33, Try.ntmps33
  have HR0 := Lib.hid (rates_two w)
  have HB0 := Lib.hid ((Below.refl w.heap.size w).alloc (Nat.le_refl _) (.cells #[.string ⟨#[117, 115, 100]⟩, .int .i64 1000000, .string ⟨#[101, 117, 114]⟩, .int .i64 1080000] 59))
  go_wp2_with fail
  refine (CA.out _ _ HR0.out).mono ?_
  rintro e w1 ⟨rfl, b1⟩
  have HR1 := Lib.hid (HR0.out.below b1)
  have HB1 := Lib.hid (HB0.out.trans (b1.mono HB0.out.size))
  clear b1 HR0 HB0
  go_wp2_with fail
  refine (CB.out _ _ HR1.out).mono ?_
  rintro e w2 ⟨rfl, b2⟩
  have HR2 := Lib.hid (HR1.out.below b2)
  have HB2 := Lib.hid (HB1.out.trans (b2.mono HB1.out.size))
  clear b2 HR1 HB1
  go_wp2_with fail
  refine (CC.out _ _ HR2.out).mono ?_
  rintro e w3 ⟨rfl, b3⟩
  have HR3 := Lib.hid (HR2.out.below b3)
  have HB3 := Lib.hid (HB2.out.trans (b3.mono HB2.out.size))
  clear b3 HR2 HB2
  have HR4 := Lib.hid (HR3.out.below ((Below.refl w3.heap.size w3).alloc (Nat.le_refl _) (.cells #[.int .i64 100, .int .i64 100] 3)))
  have HB4 := Lib.hid (HB3.out.alloc HB3.out.size (.cells #[.int .i64 100, .int .i64 100] 3))
  have HI4 := Lib.hid (ints_pair 100 100 w3 (by omega) (by omega))
  clear HR3 HB3
  go_wp2_with fail
  refine (CT.out _ _ _ HR4.out HI4.out).mono ?_
  rintro e w5 ⟨rfl, b5⟩
  have HB5 := Lib.hid (HB4.out.trans (b5.mono HB4.out.size))
  clear b5 HB4 HI4 HR4
  go_wp2_with fail
  refine (none_checks _).mono ?_
  rintro e w6 ⟨rfl, b6⟩
  have HB6 := Lib.hid (HB5.out.trans (b6.mono HB5.out.size))
  clear b6 HB5
  go_wp2_with fail
  go_ret
  exact ⟨rfl, HB6.out⟩
end Go.Proofs.Ytnadhecgbfldmaa
