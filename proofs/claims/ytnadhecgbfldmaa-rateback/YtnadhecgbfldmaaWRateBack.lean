import Derived.Test.YtnadhecgbfldmaaRateI
import Derived.Test.YtnadhecgbfldmaaArrs
namespace Go.Proofs.Ytnadhecgbfldmaa.rateBack
open Go.RowKit Go.Recs
set_option linter.unusedVariables false

/-- which way the law goes -/
theorem ways (l : List RM.Rate) (n a b : Int) :
    ((RM.checkE l != 0) = true) ∨ (RM.checkE l = 0 ∧ CM.fits n = false) ∨ (RM.checkE l = 0 ∧ CM.fits n = true ∧ a < 0) ∨ (RM.checkE l = 0 ∧ CM.fits n = true ∧ 0 ≤ a ∧ b < 0) ∨
    (RM.checkE l = 0 ∧ CM.fits n = true ∧ 0 ≤ a ∧ 0 ≤ b ∧ (l.length : Int) ≤ a) ∨ (RM.checkE l = 0 ∧ CM.fits n = true ∧ 0 ≤ a ∧ 0 ≤ b ∧ a < l.length ∧ (l.length : Int) ≤ b) ∨
    (RM.checkE l = 0 ∧ CM.fits n = true ∧ 0 ≤ a ∧ 0 ≤ b ∧ a < l.length ∧ b < l.length) := by
  by_cases h : RM.checkE l = 0
  · cases hf : CM.fits n
    · simp [h]
    · have : a < 0 ∨ (0 ≤ a ∧ b < 0) ∨ (0 ≤ a ∧ 0 ≤ b ∧ (l.length : Int) ≤ a) ∨ (0 ≤ a ∧ 0 ≤ b ∧ a < l.length ∧ (l.length : Int) ≤ b) ∨ (0 ≤ a ∧ 0 ≤ b ∧ a < l.length ∧ b < l.length) := by omega
      rcases this with g | g | g | g | g
      · exact .inr (.inr (.inl ⟨h, rfl, g⟩))
      · exact .inr (.inr (.inr (.inl ⟨h, rfl, g⟩)))
      · exact .inr (.inr (.inr (.inr (.inl ⟨h, rfl, g⟩))))
      · exact .inr (.inr (.inr (.inr (.inr (.inl ⟨h, rfl, g⟩)))))
      · exact .inr (.inr (.inr (.inr (.inr (.inr ⟨h, rfl, g⟩)))))
  · exact .inl (by simpa using h)

set_option maxHeartbeats 8000000 in
set_option maxRecDepth 100000 in
theorem walk (A : Option Addr) (cap : Nat) (l : List RM.Rate) (n a b : Int) (w : World) (hI : Rates w A l ∧ l.length ≤ cap) (hn : -9223372036854775808 ≤ n ∧ n ≤ 9223372036854775807)
    (hr : (-9223372036854775808 ≤ a ∧ a ≤ 9223372036854775807) ∧ (-9223372036854775808 ≤ b ∧ b ≤ 9223372036854775807)) :
    Calls Try.prog 11 #[.slice A l.length cap, .int .i64 n, .agg #[.int .i64 a, .int .i64 b]] w fun e w' => e = .returned (.bool true) ∧ Below w.heap.size w w' := by
  obtain ⟨hI, hcap⟩ := hI
  have hlen := hI.len
  have C0 := Lib.hid (fun ww h => rtcheck_any A l cap ww h hcap)
  have CF := Lib.hid (fun ww => rfits_any n ww)
  have hA := Arr2.new w a b
  have HB : Hid (Below w.heap.size w (w.alloc (.cells #[.int .i64 a, .int .i64 b] 53))) := Lib.hid ((Below.refl _ _).alloc (Nat.le_refl _) _)
  have HI := Lib.hid (hI.below HB.out)
  obtain ⟨hlt, c0, c1⟩ := hA
  clear hI hn hr
  rcases ways l n a b with h | ⟨h, hf⟩ | ⟨h, hf, h1⟩ | ⟨h, hf, h1, h2⟩ | ⟨h, hf, h1, h2, h3⟩ | ⟨h, hf, h1, h2, h3, h4⟩ | ⟨h, hf, h1, h2, h3, h4⟩
  · generalize RM.checkE l = x at *
    go_enter Try.func11, Try.ntmps11
    go_wp2_with fail
    generalize w.alloc (.cells #[.int .i64 a, .int .i64 b] 53) = w0 at *
    go_quiet (fail)
    have HB1 := Lib.hid (below_drewN HB.out nq)
    have HI1 := Lib.hid (HI.out.drewN nq)
    generalize w0.drewN nq = w1 at *
    clear c0 c1 hlt HB HI
    go_wp2_with fail
    refine (C0.out _ HI1.out).mono ?_
    rintro e w2 ⟨rfl, b2⟩
    have HB2 := Lib.hid (HB1.out.trans (b2.mono HB1.out.size))
    clear b2
    go_wp2_with fail
    refine (goes8_any _).mono ?_
    rintro e w3 ⟨rfl, b3⟩
    have HB3 := Lib.hid (HB2.out.trans (b3.mono HB2.out.size))
    clear b3
    go_wp2_with fail
    go_ret
    exact ⟨rfl, HB3.out⟩
  iterate 5
    · rw [h] at C0
      rw [hf] at CF
      go_enter Try.func11, Try.ntmps11
      go_wp2_with fail
      generalize w.alloc (.cells #[.int .i64 a, .int .i64 b] 53) = w0 at *
      go_quiet (fail)
      have HB1 := Lib.hid (below_drewN HB.out nq)
      have HI1 := Lib.hid (HI.out.drewN nq)
      generalize w0.drewN nq = w1 at *
      clear c0 c1 hlt HB HI
      go_wp2_with fail
      refine (C0.out _ HI1.out).mono ?_
      rintro e w2 ⟨rfl, b2⟩
      have HB2 := Lib.hid (HB1.out.trans (b2.mono HB1.out.size))
      clear b2
      go_wp2_with fail
      refine (CF.out _).mono ?_
      rintro e w3 ⟨rfl, rfl⟩
      go_wp2_with fail
      refine (goes8_any _).mono ?_
      rintro e w3 ⟨rfl, b3⟩
      have HB3 := Lib.hid (HB2.out.trans (b3.mono HB2.out.size))
      clear b3
      go_wp2_with fail
      go_ret
      exact ⟨rfl, HB3.out⟩
  · have ca := RM.isCur_true.2 ⟨h1, h3⟩
    have cb := RM.isCur_true.2 ⟨h2, h4⟩
    have ra := RM.mic_range h ca
    have rb := RM.mic_range h cb
    have fa := RM.mic_fits h ca
    have fb := RM.mic_fits h cb
    -- into its own currency
    have D1 : Hid (∀ ww, Rates ww A l → Calls Try.prog 34 #[.slice A l.length cap, .int .i64 n, .int .i64 a, .int .i64 a, .int .i64 5] ww fun e w' => e = .returned (.tuple #[.int .i64 n, .int .i64 0]) ∧ Below ww.heap.size ww w') := Lib.hid (fun ww hh => by
      have := convert_any A l cap n a a 5 ww hh hcap
      obtain ⟨e1, e2⟩ := @RM.cv_in l n a a 5 h ca ca
      obtain ⟨e3, e4⟩ := CM.md_back hf fa (by omega) (show (1 : Int) ≤ 5 by omega) (by omega)
      rw [e1, e2, e3, e4] at this; exact this)
    obtain ⟨e1, e2⟩ := @RM.cv_in l n a b 1 h ca cb
    have D2 := Lib.hid (fun ww hh => convert_any A l cap n a b 1 ww hh hcap)
    rw [e1, e2] at D2
    have hE := CM.md_err (mode := 1) hf fa fb (by omega) (by omega) (by omega)
    have hT := CM.there_back (n := n) (f := RM.mic l a) (t := RM.mic l b) hf (by omega) (by omega) fa fb
    have D3 : Hid (∀ m ww, Rates ww A l → Calls Try.prog 34 #[.slice A l.length cap, .int .i64 m, .int .i64 b, .int .i64 a, .int .i64 1] ww fun e w' => e = .returned (.tuple #[.int .i64 (CM.mdN m (RM.mic l b) (RM.mic l a) 1), .int .i64 (CM.mdE m (RM.mic l b) (RM.mic l a) 1)]) ∧ Below ww.heap.size ww w') := Lib.hid (fun m ww hh => by
      have := convert_any A l cap m b a 1 ww hh hcap
      obtain ⟨g1, g2⟩ := @RM.cv_in l m b a 1 h cb ca
      rw [g1, g2] at this; exact this)
    clear e1 e2
    rw [h] at C0
    rw [hf] at CF
    have mr := RM.md_range n (RM.mic l a) (RM.mic l b) 1
    generalize CM.mdN n (RM.mic l a) (RM.mic l b) 1 = m at *
    generalize CM.mdE n (RM.mic l a) (RM.mic l b) 1 = f at *
    have D4 := Lib.hid (D3.out m)
    have br := RM.md_range m (RM.mic l b) (RM.mic l a) 1
    generalize CM.mdN m (RM.mic l b) (RM.mic l a) 1 = bk at *
    generalize CM.mdE m (RM.mic l b) (RM.mic l a) 1 = g at *
    clear D3 ra rb fa fb ca cb h hf
    have HE := Lib.hid hE
    have HT := Lib.hid hT
    clear hE hT
    obtain ⟨mr1, mr2⟩ := mr
    obtain ⟨br1, br2⟩ := br
    go_enter Try.func11, Try.ntmps11
    go_wp2_with fail
    generalize w.alloc (.cells #[.int .i64 a, .int .i64 b] 53) = w0 at *
    go_quiet (fail)
    have HB1 := Lib.hid (below_drewN HB.out nq)
    have HI1 := Lib.hid (HI.out.drewN nq)
    generalize w0.drewN nq = w1 at *
    clear c0 c1 hlt HB HI
    go_wp2_with fail
    refine (C0.out _ HI1.out).mono ?_
    rintro e w2 ⟨rfl, b2⟩
    have HB2 := Lib.hid (HB1.out.trans (b2.mono HB1.out.size))
    have HI2 := Lib.hid (HI1.out.below b2)
    clear b2 HB1 HI1
    go_wp2_with fail
    refine (CF.out _).mono ?_
    rintro e w3 ⟨rfl, rfl⟩
    go_wp2_with fail
    refine (D1.out _ HI2.out).mono ?_
    rintro e w3 ⟨rfl, b3⟩
    have HB3 := Lib.hid (HB2.out.trans (b3.mono HB2.out.size))
    have HI3 := Lib.hid (HI2.out.below b3)
    clear b3 HB2 HI2
    go_wp2_with fail
    refine (D2.out _ HI3.out).mono ?_
    rintro e w4 ⟨rfl, b4⟩
    have HB4 := Lib.hid (HB3.out.trans (b4.mono HB3.out.size))
    have HI4 := Lib.hid (HI3.out.below b4)
    clear b4 HB3 HI3
    by_cases hff : f = 0
    · obtain ⟨t1, t2, t3⟩ := HT.out hff
      subst hff t1
      have T2 := Lib.hid t2
      have T3 := Lib.hid t3
      clear t2 t3
      go_wp2_with fail
      refine (D4.out _ HI4.out).mono ?_
      rintro e w5 ⟨rfl, b5⟩
      have HB5 := Lib.hid (HB4.out.trans (b5.mono HB4.out.size))
      clear b5 HB4 HI4
      by_cases hn : n < 0
      · obtain ⟨q1, q2, q3⟩ := T2.out hn
        go_wp2_with fail
        refine (goes8_any _).mono ?_
        rintro e w6 ⟨rfl, b6⟩
        have HB6 := Lib.hid (HB5.out.trans (b6.mono HB5.out.size))
        clear b6
        go_wp2_with fail
        go_ret
        exact ⟨rfl, HB6.out⟩
      · obtain ⟨q1, q2, q3⟩ := T3.out (by omega)
        go_wp2_with fail
        refine (goes8_any _).mono ?_
        rintro e w6 ⟨rfl, b6⟩
        have HB6 := Lib.hid (HB5.out.trans (b6.mono HB5.out.size))
        clear b6
        go_wp2_with fail
        go_ret
        exact ⟨rfl, HB6.out⟩
    · obtain ⟨t1, t2⟩ := HE.out hff
      subst t1 t2
      clear hff
      go_wp2_with fail
      refine (goes8_any _).mono ?_
      rintro e w6 ⟨rfl, b6⟩
      have HB6 := Lib.hid (HB4.out.trans (b6.mono HB4.out.size))
      clear b6
      go_wp2_with fail
      go_ret
      exact ⟨rfl, HB6.out⟩
end Go.Proofs.Ytnadhecgbfldmaa.rateBack
