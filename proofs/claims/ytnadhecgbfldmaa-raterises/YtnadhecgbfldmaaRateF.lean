/- Contracts of layer 8: the reference's Convert; Base and Cross. -/
import Derived.Test.YtnadhecgbfldmaaRateE
import Derived.BigQuiet
namespace Go.Proofs.Ytnadhecgbfldmaa
open Go.RowKit Go.Recs
set_option linter.unusedVariables false

theorem quietly8 {P : Program} {f : FuncId} {args : Array Value} {w : World} {n : Nat} {v : Value}
    (h : Calls P f args (w.drewN n) fun e w' => e = .returned v ∧ w.drewN n = w') : Calls P f args (w.drewN n) fun e w' => e = .returned v ∧ ∃ m, w' = w.drewN m :=
  h.mono fun e w' ⟨h1, h2⟩ => ⟨h1, n, h2.symm⟩

set_option maxHeartbeats 2000000 in
theorem rconvert_any (A : Option Addr) (l : List RM.Rate) (cap : Nat) (n a b mode : Int) (w : World) (hI : Rates w A l) :
    Calls Try.prog 35 #[.slice A l.length cap, .int .i64 n, .int .i64 a, .int .i64 b, .int .i64 mode] w fun e w' => e = .returned (.tuple #[.int .i64 (RM.cvN l n a b mode), .int .i64 (RM.cvE l n a b mode)]) ∧ ∃ k, w' = w.drewN k := by
  have hlen := hI.len
  have C0 := Lib.hid (rcheck_any A l cap w hI)
  by_cases hc : RM.checkE l = 0
  · rw [hc] at C0
    by_cases h : 0 ≤ a ∧ 0 ≤ b ∧ a < l.length ∧ b < l.length
    · obtain ⟨a0, b0, a1, b1⟩ := h
      obtain ⟨e1, e2⟩ := @RM.cv_in l n a b mode hc (RM.isCur_true.2 ⟨a0, a1⟩) (RM.isCur_true.2 ⟨b0, b1⟩)
      have ea : RM.mic l a = (RM.at_ l a.toNat).2 := rfl
      have eb : RM.mic l b = (RM.at_ l b.toNat).2 := rfl
      rw [e1, e2, ea, eb]; clear e1 e2 ea eb hc
      obtain ⟨ka, rfl⟩ := Int.eq_ofNat_of_zero_le a0
      obtain ⟨kb, rfl⟩ := Int.eq_ofNat_of_zero_le b0
      rw [Int.toNat_natCast, Int.toNat_natCast]
      generalize hN : CM.mdN n (RM.at_ l ka).2 (RM.at_ l kb).2 mode = xN
      generalize hE : CM.mdE n (RM.at_ l ka).2 (RM.at_ l kb).2 mode = xE
      have HN := Lib.hid hN
      have HE := Lib.hid hE
      clear hN hE
      have ka1 : ka < l.length := by omega
      have kb1 : kb < l.length := by omega
      clear a0 b0 a1 b1
      obtain ⟨g, off, s1, m1, rfl, hg, hc0, hc1, HV1, -, q1, q2⟩ := hI.get ka1
      obtain ⟨g', off', s2, m2, e, -, hd0, hd1, HV2, -, q3, q4⟩ := hI.get kb1
      injection e with e
      injection e with e e'
      subst e e'
      have CM : Hid (∀ ww, Calls Try.prog 48 #[.int .i64 n, .int .i64 m1, .int .i64 m2, .int .i64 mode] ww fun e w' => e = .returned (.tuple #[.int .i64 xN, .int .i64 xE]) ∧ ww = w') := Lib.hid (fun ww => by
        have := rmuldiv_any n m1 m2 mode ww
        rw [HV1.out, HV2.out] at HN HE
        rw [← HN.out, ← HE.out]; exact this)
      have HI := Lib.hid hI
      clear hI HN HE
      go_enter Try.func35, Try.ntmps35
      go_wp2_with fail
      refine (C0.out).mono ?_
      rintro e w1 ⟨rfl, rfl⟩
      go_wp2_with fail
      go_quiet ((go_at_call 48; exact quietly8 (CM.out _)))
      go_wp2_with fail
      go_ret2
      exact ⟨rfl, _, rfl⟩
    · obtain ⟨e1, e2⟩ := @RM.cv_out l n a b mode hc (fun g => h (by have g1 := RM.isCur_true.1 g.1; have g2 := RM.isCur_true.1 g.2; omega))
      rw [e1, e2]; clear e1 e2 hc
      have hh : a < 0 ∨ (0 ≤ a ∧ b < 0) ∨ (0 ≤ a ∧ 0 ≤ b ∧ (l.length : Int) ≤ a) ∨ (0 ≤ a ∧ 0 ≤ b ∧ a < (l.length : Int) ∧ (l.length : Int) ≤ b) := by omega
      clear h
      rcases hh with h1 | ⟨h1, h2⟩ | ⟨h1, h2, h3⟩ | ⟨h1, h2, h3, h4⟩
      all_goals
        go_enter Try.func35, Try.ntmps35
        go_wp2_with fail
        refine (C0.out).mono ?_
        rintro e w1 ⟨rfl, rfl⟩
        go_wp2_with fail
        go_ret2
        exact ⟨rfl, 0, rfl⟩
  · obtain ⟨e1, e2⟩ := @RM.cv_bad l n a b mode hc
    rw [e1, e2]; clear e1 e2
    have hne : (RM.checkE l != 0) = true := by simpa using hc
    generalize RM.checkE l = x at *
    clear hc
    go_enter Try.func35, Try.ntmps35
    go_wp2_with fail
    refine (C0.out).mono ?_
    rintro e w1 ⟨rfl, rfl⟩
    go_wp2_with fail
    go_ret2
    exact ⟨rfl, 0, rfl⟩

theorem base_any (A : Option Addr) (l : List RM.Rate) (cap : Nat) (n a mode : Int) (w : World) (hI : Rates w A l) (hcap : l.length ≤ cap) :
    Calls Try.prog 36 #[.slice A l.length cap, .int .i64 n, .int .i64 a, .int .i64 mode] w fun e w' => e = .returned (.tuple #[.int .i64 (RM.cvN l n a 0 mode), .int .i64 (RM.cvE l n a 0 mode)]) ∧ Below w.heap.size w w' := by
  have C := Lib.hid (convert_any A l cap n a 0 mode w hI hcap)
  generalize RM.cvN l n a 0 mode = x at *
  generalize RM.cvE l n a 0 mode = y at *
  go_enter Try.func36, Try.ntmps36
  go_wp2_with fail
  refine (C.out).mono ?_
  rintro e w1 ⟨rfl, b1⟩
  go_wp2_with fail
  go_ret2
  exact ⟨rfl, b1⟩
theorem rbase_any (A : Option Addr) (l : List RM.Rate) (cap : Nat) (n a mode : Int) (w : World) (hI : Rates w A l) :
    Calls Try.prog 37 #[.slice A l.length cap, .int .i64 n, .int .i64 a, .int .i64 mode] w fun e w' => e = .returned (.tuple #[.int .i64 (RM.cvN l n a 0 mode), .int .i64 (RM.cvE l n a 0 mode)]) ∧ ∃ k, w' = w.drewN k := by
  have C := Lib.hid (rconvert_any A l cap n a 0 mode w hI)
  generalize RM.cvN l n a 0 mode = x at *
  generalize RM.cvE l n a 0 mode = y at *
  go_enter Try.func37, Try.ntmps37
  go_wp2_with fail
  refine (C.out).mono ?_
  rintro e w1 ⟨rfl, b1⟩
  go_wp2_with fail
  go_ret2
  exact ⟨rfl, b1⟩
theorem cross_any (A : Option Addr) (l : List RM.Rate) (cap : Nat) (a b : Int) (w : World) (hI : Rates w A l) (hcap : l.length ≤ cap) :
    Calls Try.prog 38 #[.slice A l.length cap, .int .i64 a, .int .i64 b] w fun e w' => e = .returned (.tuple #[.int .i64 (RM.cvN l 1000000 a b 5), .int .i64 (RM.cvE l 1000000 a b 5)]) ∧ Below w.heap.size w w' := by
  have C := Lib.hid (convert_any A l cap 1000000 a b 5 w hI hcap)
  generalize RM.cvN l 1000000 a b 5 = x at *
  generalize RM.cvE l 1000000 a b 5 = y at *
  go_enter Try.func38, Try.ntmps38
  go_wp2_with fail
  refine (C.out).mono ?_
  rintro e w1 ⟨rfl, b1⟩
  go_wp2_with fail
  go_ret2
  exact ⟨rfl, b1⟩
theorem rcross_any (A : Option Addr) (l : List RM.Rate) (cap : Nat) (a b : Int) (w : World) (hI : Rates w A l) :
    Calls Try.prog 39 #[.slice A l.length cap, .int .i64 a, .int .i64 b] w fun e w' => e = .returned (.tuple #[.int .i64 (RM.cvN l 1000000 a b 5), .int .i64 (RM.cvE l 1000000 a b 5)]) ∧ ∃ k, w' = w.drewN k := by
  have C := Lib.hid (rconvert_any A l cap 1000000 a b 5 w hI)
  generalize RM.cvN l 1000000 a b 5 = x at *
  generalize RM.cvE l 1000000 a b 5 = y at *
  go_enter Try.func39, Try.ntmps39
  go_wp2_with fail
  refine (C.out).mono ?_
  rintro e w1 ⟨rfl, b1⟩
  go_wp2_with fail
  go_ret2
  exact ⟨rfl, b1⟩
end Go.Proofs.Ytnadhecgbfldmaa
