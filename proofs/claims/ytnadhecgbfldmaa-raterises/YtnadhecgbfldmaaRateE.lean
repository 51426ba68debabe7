/- Contracts of layer 8: Convert, Base, Cross. -/
import Derived.Test.YtnadhecgbfldmaaRateC
import Derived.Test.YtnadhecgbfldmaaRateD
namespace Go.Proofs.Ytnadhecgbfldmaa
open Go.RowKit Go.Recs
set_option linter.unusedVariables false

theorem isIndex_any (A : Option Addr) (l : List RM.Rate) (cap : Nat) (i : Int) (w : World) (hl : l.length ≤ 9223372036854775807) :
    Calls Try.prog 46 #[.slice A l.length cap, .int .i64 i] w fun e w' => e = .returned (.bool (RM.isCur l i)) ∧ w = w' := by
  by_cases h1 : 0 ≤ i
  · have e : RM.isCur l i = decide (i < (l.length : Int)) := by simp [RM.isCur, h1]
    rw [e]; clear e
    go_enter Try.func46, Try.ntmps46
    go_wp2_with fail
    go_ret
    exact ⟨rfl, rfl⟩
  · have e : RM.isCur l i = false := by simp [RM.isCur]; omega
    rw [e]; clear e
    go_enter Try.func46, Try.ntmps46
    go_wp2_with fail
    go_ret
    exact ⟨rfl, rfl⟩

set_option maxHeartbeats 2000000 in
theorem convert_any (A : Option Addr) (l : List RM.Rate) (cap : Nat) (n a b mode : Int) (w : World) (hI : Rates w A l) (hcap : l.length ≤ cap) :
    Calls Try.prog 34 #[.slice A l.length cap, .int .i64 n, .int .i64 a, .int .i64 b, .int .i64 mode] w fun e w' => e = .returned (.tuple #[.int .i64 (RM.cvN l n a b mode), .int .i64 (RM.cvE l n a b mode)]) ∧ Below w.heap.size w w' := by
  have hlen := hI.len
  have C0 := Lib.hid (rtcheck_any A l cap w hI hcap)
  have CA := Lib.hid (fun ww => isIndex_any A l cap a ww hlen)
  have CB := Lib.hid (fun ww => isIndex_any A l cap b ww hlen)
  by_cases hc : RM.checkE l = 0
  · rw [hc] at C0
    cases ha : RM.isCur l a
    · obtain ⟨e1, e2⟩ := @RM.cv_out l n a b mode hc (fun g => by rw [ha] at g; cases g.1)
      rw [ha] at CA
      rw [e1, e2]; clear e1 e2 ha hc
      go_enter Try.func34, Try.ntmps34
      go_wp2_with fail
      refine (C0.out).mono ?_
      rintro e w1 ⟨rfl, b1⟩
      go_wp2_with fail
      refine (CA.out _).mono ?_
      rintro e w2 ⟨rfl, rfl⟩
      go_wp2_with fail
      go_ret2
      exact ⟨rfl, b1⟩
    · cases hb : RM.isCur l b
      · obtain ⟨e1, e2⟩ := @RM.cv_out l n a b mode hc (fun g => by rw [hb] at g; cases g.2)
        rw [ha] at CA
        rw [hb] at CB
        rw [e1, e2]; clear e1 e2 ha hb hc
        go_enter Try.func34, Try.ntmps34
        go_wp2_with fail
        refine (C0.out).mono ?_
        rintro e w1 ⟨rfl, b1⟩
        go_wp2_with fail
        refine (CA.out _).mono ?_
        rintro e w2 ⟨rfl, rfl⟩
        go_wp2_with fail
        refine (CB.out _).mono ?_
        rintro e w2 ⟨rfl, rfl⟩
        go_wp2_with fail
        go_ret2
        exact ⟨rfl, b1⟩
      · obtain ⟨e1, e2⟩ := @RM.cv_in l n a b mode hc ha hb
        obtain ⟨a0, a1⟩ := RM.isCur_true.1 ha
        obtain ⟨b0, b1⟩ := RM.isCur_true.1 hb
        rw [ha] at CA
        rw [hb] at CB
        have ea : RM.mic l a = (RM.at_ l a.toNat).2 := rfl
        have eb : RM.mic l b = (RM.at_ l b.toNat).2 := rfl
        rw [e1, e2, ea, eb]; clear e1 e2 ea eb ha hb hc
        obtain ⟨ka, rfl⟩ := Int.eq_ofNat_of_zero_le a0
        obtain ⟨kb, rfl⟩ := Int.eq_ofNat_of_zero_le b0
        rw [Int.toNat_natCast, Int.toNat_natCast]
        generalize hN : CM.mdN n (RM.at_ l ka).2 (RM.at_ l kb).2 mode = xN
        generalize hE : CM.mdE n (RM.at_ l ka).2 (RM.at_ l kb).2 mode = xE
        have HN := Lib.hid hN
        have HE := Lib.hid hE
        clear hN hE
        have ka1 : ka < l.length := by omega
        have kb1 : kb < l.length := by omega
        clear a0 b0 a1 b1
        go_enter Try.func34, Try.ntmps34
        go_wp2_with fail
        refine (C0.out).mono ?_
        rintro e w1 ⟨rfl, b1⟩
        go_wp2_with fail
        refine (CA.out _).mono ?_
        rintro e w2 ⟨rfl, rfl⟩
        go_wp2_with fail
        refine (CB.out _).mono ?_
        rintro e w2 ⟨rfl, rfl⟩
        obtain ⟨g, off, s1, m1, rfl, hg, hc0, hc1, HV1, -, q1, q2⟩ := (hI.below b1).get ka1
        obtain ⟨g', off', s2, m2, e, -, hd0, hd1, HV2, -, q3, q4⟩ := (hI.below b1).get kb1
        injection e with e
        injection e with e e'
        subst e e'
        have CM : Hid (∀ ww, Calls Try.prog 47 #[.int .i64 n, .int .i64 m1, .int .i64 m2, .int .i64 mode] ww fun e w' => e = .returned (.tuple #[.int .i64 xN, .int .i64 xE]) ∧ Below ww.heap.size ww w') := Lib.hid (fun ww => by
          have := muldiv_any n m1 m2 mode ww
          rw [HV1.out, HV2.out] at HN HE
          rw [← HN.out, ← HE.out]; exact this)
        have HB := Lib.hid b1
        have HI := Lib.hid hI
        clear b1 hI HN HE
        go_wp2_with fail
        go_region_with (go_at_call 47; refine (CM.out _).mono ?_; rintro e w2 ⟨rfl, b2⟩)
        all_goals (
          go_wp2_with fail
          go_ret2
          exact ⟨rfl, HB.out.drew.trans (b2.mono HB.out.drew.size)⟩)
  · obtain ⟨e1, e2⟩ := @RM.cv_bad l n a b mode hc
    rw [e1, e2]; clear e1 e2
    have hne : (RM.checkE l != 0) = true := by simpa using hc
    generalize RM.checkE l = x at *
    clear hc
    go_enter Try.func34, Try.ntmps34
    go_wp2_with fail
    refine (C0.out).mono ?_
    rintro e w1 ⟨rfl, b1⟩
    go_wp2_with fail
    go_ret2
    exact ⟨rfl, b1⟩
end Go.Proofs.Ytnadhecgbfldmaa
