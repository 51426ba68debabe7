import Derived.Test.YtnadhecgbfldmaaRateI
import Derived.Test.YtnadhecgbfldmaaArrs
namespace Go.Proofs.Ytnadhecgbfldmaa.rateRises
open Go.RowKit Go.Recs
set_option linter.unusedVariables false

theorem rises {l : List RM.Rate} {n n' a b mode : Int} (h : n ≤ n') (e : RM.cvE l n a b mode = 0) (e' : RM.cvE l n' a b mode = 0) : RM.cvN l n a b mode ≤ RM.cvN l n' a b mode := by
  by_cases hc : RM.checkE l = 0
  · by_cases hh : RM.isCur l a = true ∧ RM.isCur l b = true
    · obtain ⟨e1, e2⟩ := @RM.cv_in l n a b mode hc hh.1 hh.2
      obtain ⟨g1, g2⟩ := @RM.cv_in l n' a b mode hc hh.1 hh.2
      have ra := RM.mic_range hc hh.1
      have rb := RM.mic_range hc hh.2
      rw [e2] at e
      rw [g2] at e'
      rw [e1, g1]
      exact CM.md_rises (by omega) (by omega) h e e'
    · rw [(@RM.cv_out l n a b mode hc hh).1, (@RM.cv_out l n' a b mode hc hh).1]; exact Int.le_refl _
  · rw [(@RM.cv_bad l n a b mode hc).1, (@RM.cv_bad l n' a b mode hc).1]; exact Int.le_refl _

/-- the law's last question -/
theorem last {e e' x x' : Int} (h : e = 0 → e' = 0 → x ≤ x') : (e != 0) = true ∨ ((e != 0) = false ∧ (e' != 0) = true) ∨ ((e != 0) = false ∧ (e' != 0) = false ∧ decide (x ≤ x') = true) := by
  by_cases h1 : e = 0
  · by_cases h2 : e' = 0
    · exact .inr (.inr ⟨by simpa using h1, by simpa using h2, by simpa using h h1 h2⟩)
    · exact .inr (.inl ⟨by simpa using h1, by simpa using h2⟩)
  · exact .inl (by simpa using h1)

set_option maxHeartbeats 8000000 in
set_option maxRecDepth 100000 in
theorem steps (A : Option Addr) (cap : Nat) (l : List RM.Rate) (n0 n1 lo hi a b mode x e x' e' : Int) (w : World) (HI0 : Hid (Rates w A l)) (hmm : (n0 < n1 ∧ lo = n0 ∧ hi = n1) ∨ (n1 = n0 ∧ lo = n0 ∧ hi = n0) ∨ (n1 < n0 ∧ lo = n1 ∧ hi = n0))
    (C1 : Hid (∀ ww, Rates ww A l → Calls Try.prog 34 #[.slice A l.length cap, .int .i64 lo, .int .i64 a, .int .i64 b, .int .i64 mode] ww fun r w' => r = .returned (.tuple #[.int .i64 x, .int .i64 e]) ∧ Below ww.heap.size ww w'))
    (C2 : Hid (∀ ww, Rates ww A l → Calls Try.prog 34 #[.slice A l.length cap, .int .i64 hi, .int .i64 a, .int .i64 b, .int .i64 mode] ww fun r w' => r = .returned (.tuple #[.int .i64 x', .int .i64 e']) ∧ Below ww.heap.size ww w'))
    (HL : Hid ((e != 0) = true ∨ ((e != 0) = false ∧ (e' != 0) = true) ∨ ((e != 0) = false ∧ (e' != 0) = false ∧ decide (x ≤ x') = true))) :
    Calls Try.prog 12 #[.slice A l.length cap, .agg #[.int .i64 n0, .int .i64 n1], .agg #[.int .i64 a, .int .i64 b, .int .i64 mode]] w fun e w' => e = .returned (.bool true) ∧ Below w.heap.size w w' := by
  have HB0 : Hid (Below w.heap.size w (w.alloc (.cells #[.int .i64 n0, .int .i64 n1] 53))) := Lib.hid ((Below.refl _ _).alloc (Nat.le_refl _) _)
  have hA2 := (Arr2.new w n0 n1).below ((Below.refl _ _).alloc (Nat.le_refl _) (.cells #[.int .i64 a, .int .i64 b, .int .i64 mode] 42))
  have hA3 := Arr3.new (w.alloc (.cells #[.int .i64 n0, .int .i64 n1] 53)) a b mode
  have hz : (w.alloc (.cells #[.int .i64 n0, .int .i64 n1] 53)).heap.size = w.heap.size + 1 := by simp
  rw [hz] at hA3
  have HB1 : Hid (Below w.heap.size w ((w.alloc (.cells #[.int .i64 n0, .int .i64 n1] 53)).alloc (.cells #[.int .i64 a, .int .i64 b, .int .i64 mode] 42))) := Lib.hid (HB0.out.alloc HB0.out.size _)
  have HI1 := Lib.hid (HI0.out.below HB1.out)
  clear hz HB0 HI0
  have HA := Lib.hid hA3
  obtain ⟨hlt, c0, c1⟩ := hA2
  obtain ⟨hlt3, d0, d1, d2⟩ := hA3
  rcases hmm with ⟨hle, rfl, rfl⟩ | ⟨rfl, rfl, rfl⟩ | ⟨hle, rfl, rfl⟩
  all_goals
    go_enter Try.func12, Try.ntmps12
    go_wp2_with fail
    generalize (w.alloc (.cells #[.int .i64 _, .int .i64 _] 53)).alloc (.cells #[.int .i64 a, .int .i64 b, .int .i64 mode] 42) = w0 at *
    go_quiet (fail)
    have HB2 := Lib.hid (below_drewN HB1.out nq)
    have HI2 := Lib.hid (HI1.out.drewN nq)
    have HA2 := Lib.hid (HA.out.drewN nq)
    generalize w0.drewN nq = w2 at *
    clear hlt c0 c1 hlt3 d0 d1 d2 HB1 HI1 HA
    obtain ⟨hlt3, d0, d1, d2⟩ := HA2.out
    go_wp2_with fail
    refine (C1.out _ HI2.out).mono ?_
    rintro r w3 ⟨rfl, b3⟩
    have HA3 := Lib.hid (HA2.out.below b3)
    have HB3 := Lib.hid (HB2.out.trans (b3.mono HB2.out.size))
    have HI3 := Lib.hid (HI2.out.below b3)
    clear b3 hlt3 d0 d1 d2 HA2 HB2 HI2
    obtain ⟨hlt3, d0, d1, d2⟩ := HA3.out
    go_wp2_with fail
    refine (C2.out _ HI3.out).mono ?_
    rintro r w4 ⟨rfl, b4⟩
    have HB4 := Lib.hid (HB3.out.trans (b4.mono HB3.out.size))
    clear b4 hlt3 d0 d1 d2 HA3 HB3 HI3
    rcases HL.out with k1 | ⟨k1, k2⟩ | ⟨k1, k2, k3⟩
    all_goals (
      go_wp2_with fail
      refine (goes8_any _).mono ?_
      rintro r w5 ⟨rfl, b5⟩
      have HB5 := Lib.hid (HB4.out.trans (b5.mono HB4.out.size))
      clear b5
      go_wp2_with fail
      go_ret
      exact ⟨rfl, HB5.out⟩)

theorem walk (A : Option Addr) (cap : Nat) (l : List RM.Rate) (n0 n1 a b mode : Int) (w : World) (hI : Rates w A l ∧ l.length ≤ cap) (hn : (-9223372036854775808 ≤ n0 ∧ n0 ≤ 9223372036854775807) ∧ (-9223372036854775808 ≤ n1 ∧ n1 ≤ 9223372036854775807))
    (hr : (-9223372036854775808 ≤ a ∧ a ≤ 9223372036854775807) ∧ (-9223372036854775808 ≤ b ∧ b ≤ 9223372036854775807) ∧ (-9223372036854775808 ≤ mode ∧ mode ≤ 9223372036854775807)) :
    Calls Try.prog 12 #[.slice A l.length cap, .agg #[.int .i64 n0, .int .i64 n1], .agg #[.int .i64 a, .int .i64 b, .int .i64 mode]] w fun e w' => e = .returned (.bool true) ∧ Below w.heap.size w w' := by
  obtain ⟨hI, hcap⟩ := hI
  obtain ⟨lo, hi, hmm, hle⟩ : ∃ lo hi, ((n0 < n1 ∧ lo = n0 ∧ hi = n1) ∨ (n1 = n0 ∧ lo = n0 ∧ hi = n0) ∨ (n1 < n0 ∧ lo = n1 ∧ hi = n0)) ∧ lo ≤ hi := by
    by_cases h : n0 < n1
    · exact ⟨n0, n1, .inl ⟨h, rfl, rfl⟩, by omega⟩
    · by_cases h2 : n1 = n0
      · exact ⟨n0, n0, .inr (.inl ⟨h2, rfl, rfl⟩), by omega⟩
      · exact ⟨n1, n0, .inr (.inr ⟨by omega, rfl, rfl⟩), by omega⟩
  exact steps A cap l n0 n1 lo hi a b mode _ _ _ _ w (Lib.hid hI) hmm (Lib.hid fun ww h => convert_any A l cap lo a b mode ww h hcap) (Lib.hid fun ww h => convert_any A l cap hi a b mode ww h hcap) (Lib.hid (last (rises hle)))
end Go.Proofs.Ytnadhecgbfldmaa.rateRises
