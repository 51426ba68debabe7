/- Contracts: numbers read, the program's. -/
import Derived.Test.YtegipokbbmnahaaWireD
import Derived.Test.YtegipokbbmnahaaWireMath3
import Derived.WalkMore
import Derived.Laws.Bits64b
namespace Go.Proofs.Ytegipokbbmnahaa
open Go.RowKit
set_option linter.unusedVariables false

theorem shl_val (c k : Nat) (hc : c < 128) : ∃ z : Nat, z < 18446744073709551616 ∧ Op.shift .shl .u64 (c : Int) .i64 (7 * (k : Int)) = pure (.int .u64 (z : Int)) ∧ (k ≤ 8 ∨ (k = 9 ∧ c ≤ 1) → z = c * 128 ^ k) ∧ (k ≤ 9 → IntKind.u64.wrap ((c : Int) * 2 ^ (7 * k)) = (z : Int)) := by
  have hm : min (7 * (k : Int)).toNat IntKind.u64.bits = min (7 * k) 64 := by
    have : (7 * (k : Int)).toNat = 7 * k := by omega
    rw [this]; rfl
  refine ⟨c * 2 ^ (min (7 * k) 64) % 18446744073709551616, Nat.mod_lt _ (by omega), ?_, ?_, ?_⟩
  · unfold Op.shift
    rw [if_neg (by omega)]
    simp only [hm]
    rw [IntKind.wrap_u64]
    have e : ((c : Int) * 2 ^ (min (7 * k) 64)) = ((c * 2 ^ (min (7 * k) 64) : Nat) : Int) := by rw [Int.natCast_mul, Int.natCast_pow]; rfl
    rw [e]
    congr 2
  · intro h
    have hk : min (7 * k) 64 = 7 * k := by omega
    rw [hk, Nat.pow_mul, show (2 : Nat) ^ 7 = 128 from rfl]
    apply Nat.mod_eq_of_lt
    rcases h with h | ⟨rfl, h⟩
    · have h1 : (128 : Nat) ^ k ≤ 128 ^ 8 := Nat.pow_le_pow_right (by omega) h
      have h2 : c * 128 ^ k ≤ 127 * 128 ^ 8 := Nat.mul_le_mul (by omega) h1
      have h3 : (127 : Nat) * 128 ^ 8 < 18446744073709551616 := by decide
      exact Nat.lt_of_le_of_lt h2 h3
    · have h2 : c * 128 ^ 9 ≤ 1 * 128 ^ 9 := Nat.mul_le_mul h (Nat.le_refl _)
      have h3 : (1 : Nat) * 128 ^ 9 < 18446744073709551616 := by decide
      exact Nat.lt_of_le_of_lt h2 h3
  · intro h
    have hk : min (7 * k) 64 = 7 * k := by omega
    rw [hk, IntKind.wrap_u64]
    have e : ((c : Int) * 2 ^ (7 * k)) = ((c * 2 ^ (7 * k) : Nat) : Int) := by rw [Int.natCast_mul, Int.natCast_pow]; rfl
    rw [e]
    rfl

set_option maxHeartbeats 2000000 in
set_option maxRecDepth 100000 in
theorem decode_any (A : Option Addr) (n cap : Nat) (l : List UInt8) (w : World) (hn : n = l.length) (hA : Bytes w A l) (hl : l.length ≤ 1000000) :
    Calls Try.prog 68 #[.slice A n cap] w fun e w' => e = .returned (.tuple #[.int .i64 (XM.intN l), .int .i64 (XM.intK l : Int), .int .i64 (XM.intE l)]) ∧ w = w' := by
  subst hn
  generalize hr1 : XM.intN l = rN
  generalize hr2 : XM.intK l = rK
  generalize hr3 : XM.intE l = rE
  have HR : Hid (XM.intN l = rN ∧ XM.intK l = rK ∧ XM.intE l = rE) := Lib.hid ⟨hr1, hr2, hr3⟩
  clear hr1 hr2 hr3
  go_enter Try.func68, Try.ntmps68
  go_wp2
  go_step3
  go_wp2
  go_step3
  go_wp2
  go_loop [2, 3, 4, 5, 10] (fun a b c u i => ∃ k x : Nat, k ≤ l.length ∧ a = .int .i64 0 ∧ b = .int .i64 0 ∧ c = .int .i64 6 ∧ i = .int .i64 k ∧ u = .int .u64 (x : Int) ∧ Hid (XM.DI l k x)) (fun _ _ _ _ i => l.length - (intOf i).toNat)
  case atStart => exact ⟨0, 0, by omega, rfl, rfl, rfl, rfl, rfl, Lib.hid (XM.DI.start l)⟩
  case round =>
    obtain ⟨k, x, hk, rfl, rfl, rfl, rfl, rfl, HD⟩ := hrel
    by_cases hlt : k < l.length
    · obtain ⟨b, off, n, rfl, hb, hcell, HN, n0, n1⟩ := hA.get hlt
      have HA := Lib.hid hA
      clear hA
      obtain ⟨z, hz, hsh, hzk, hwz⟩ := shl_val (l[k].toNat % 128) k (by omega)
      have hnm : ((l[k].toNat % 128 : Nat) : Int) = n % 128 := by rw [← HN.out]; omega
      rw [hnm] at hsh hwz
      have HWZ := Lib.hid hwz
      clear hwz
      have hor := bits_or_u64_nat x z HD.out.2.2.1 hz
      have hux := XM.or_lt HD.out.2.2.1 hz
      have HZ := Lib.hid hz; have HZK := Lib.hid hzk; have HNM := Lib.hid hnm
      clear hz hzk hnm
      have step : 128 ≤ n → XM.DI l (k + 1) (x ||| z) := fun h => HD.out.step hlt (by have := HN.out; omega) HZ.out (fun h8 => HZK.out (.inl h8))
      have bad : n < 128 → XM.right (l.take (k + 1)) = false → rN = 0 ∧ rK = 0 ∧ rE = 5 := fun h hr => by
        obtain ⟨e1, e2, e3⟩ := HD.out.bad hlt (by have := HN.out; omega) hr
        obtain ⟨f1, f2, f3⟩ := HR.out
        exact ⟨by rw [← f1, e2], by rw [← f2, e3], by rw [← f3, e1]⟩
      have good : n < 128 → XM.right (l.take (k + 1)) = true → (k ≤ 8 ∨ (k = 9 ∧ n ≤ 1)) → rN = XM.down (x ||| z) ∧ rK = k + 1 ∧ rE = 0 := fun h hr h9 => by
        have hzz := HZK.out (by have := HN.out; omega)
        obtain ⟨e1, e2, e3⟩ := HD.out.good hlt (by have := HN.out; omega) hr hzz
        obtain ⟨f1, f2, f3⟩ := HR.out
        exact ⟨by rw [← f1, e2], by rw [← f2, e3], by rw [← f3, e1]⟩
      have rgt := XM.right_last_eq hlt
      have hq0 : (l[k] == 0) = (n == 0) := by
        rw [Bool.eq_iff_iff]
        simp only [beq_iff_eq]
        have := HN.out
        constructor
        · intro h; rw [h] at this; exact this.symm
        · intro h; exact UInt8.toNat_inj.1 (by have e0 : (0 : UInt8).toNat = 0 := rfl; omega)
      have hq1 : decide (1 < l[k].toNat) = decide (1 < n) := by rw [decide_eq_decide]; have := HN.out; omega
      rw [hq0, hq1] at rgt
      have RGT := Lib.hid rgt; have STEP := Lib.hid step; have BAD := Lib.hid bad; have GOOD := Lib.hid good
      clear rgt step bad good hq0 hq1
      generalize x ||| z = u at *
      by_cases h128 : 128 ≤ n
      · have HS := Lib.hid (STEP.out h128)
        go_wp2
        go_round
        case rel => exact ⟨k + 1, u, by omega, rfl, rfl, rfl, by go_num, rfl, HS⟩
        case measure => simp [intOf]; omega
      · have c128 : decide (128 ≤ n) = false := decide_eq_false h128
        have hn127 : n < 128 := by omega
        by_cases k10 : 10 ≤ k
        · have HB := Lib.hid (BAD.out hn127 (by rw [RGT.out, decide_eq_false (show ¬ k ≤ 9 by omega)]; rfl))
          go_wp2
          try rw [Exit.noGoto_ret]
          go_ret3
          exact ⟨by rw [HB.out.1, HB.out.2.1, HB.out.2.2]; rfl, rfl⟩
        · have c10 : decide (10 ≤ k) = false := decide_eq_false k10
          have hwz := HWZ.out (by omega)
          have c9d : decide (k ≤ 9) = true := decide_eq_true (by omega)
          by_cases k9 : k = 9
          · have c9 : ((k : Int) == 9) = true := beq_t (by omega)
            have c9n : (k == 9) = true := by simpa using k9
            by_cases v1 : 1 < n
            · have HB := Lib.hid (BAD.out hn127 (by rw [RGT.out, c9n, decide_eq_true v1]; simp))
              clear c9n c9d k9
              go_wp2
              try rw [Exit.noGoto_ret]
              go_ret3
              exact ⟨by rw [HB.out.1, HB.out.2.1, HB.out.2.2]; rfl, rfl⟩
            · have cv1 : decide (1 < n) = false := decide_eq_false v1
              have ck0 : 0 < k := by omega
              by_cases v0 : n = 0
              · have cv0 : (n == 0) = true := beq_t v0
                have HB := Lib.hid (BAD.out hn127 (by rw [RGT.out, cv0, decide_eq_true ck0]; simp))
                clear c9n c9d k9 v0
                go_wp2
                try rw [Exit.noGoto_ret]
                go_ret3
                exact ⟨by rw [HB.out.1, HB.out.2.1, HB.out.2.2]; rfl, rfl⟩
              · have cv0 : (n == 0) = false := beq_f v0
                have HG := Lib.hid (GOOD.out hn127 (by rw [RGT.out, cv0, cv1, c9d]; simp) (.inr ⟨k9, by omega⟩))
                have CS := signed_any u w hux
                rw [← HG.out.1] at CS
                have HCS := Lib.hid CS
                clear CS c9n c9d v0 v1 k9
                go_wp2_with fail
                (with_reducible refine HCS.out.mono ?_)
                rintro e w' ⟨rfl, rfl⟩
                go_wp2
                try rw [Exit.noGoto_ret]
                go_ret3
                exact ⟨by rw [HG.out.2.1, HG.out.2.2]; rfl, rfl⟩
          · have c9 : ((k : Int) == 9) = false := beq_f (by omega)
            have c9n : (k == 9) = false := by simpa using k9
            by_cases k0 : 0 < k
            · by_cases v0 : n = 0
              · have cv0 : (n == 0) = true := beq_t v0
                have HB := Lib.hid (BAD.out hn127 (by rw [RGT.out, cv0, decide_eq_true k0]; simp))
                clear c9n c9d v0
                go_wp2
                try rw [Exit.noGoto_ret]
                go_ret3
                exact ⟨by rw [HB.out.1, HB.out.2.1, HB.out.2.2]; rfl, rfl⟩
              · have cv0 : (n == 0) = false := beq_f v0
                have HG := Lib.hid (GOOD.out hn127 (by rw [RGT.out, cv0, c9n, c9d]; simp) (.inl (by omega)))
                have CS := signed_any u w hux
                rw [← HG.out.1] at CS
                have HCS := Lib.hid CS
                clear CS c9n c9d v0
                go_wp2_with fail
                (with_reducible refine HCS.out.mono ?_)
                rintro e w' ⟨rfl, rfl⟩
                go_wp2
                try rw [Exit.noGoto_ret]
                go_ret3
                exact ⟨by rw [HG.out.2.1, HG.out.2.2]; rfl, rfl⟩
            · have ck0 : decide (0 < k) = false := decide_eq_false k0
              have HG := Lib.hid (GOOD.out hn127 (by rw [RGT.out, ck0, c9n, c9d]; simp) (.inl (by omega)))
              have CS := signed_any u w hux
              rw [← HG.out.1] at CS
              have HCS := Lib.hid CS
              clear CS c9n c9d
              go_wp2_with fail
              (with_reducible refine HCS.out.mono ?_)
              rintro e w' ⟨rfl, rfl⟩
              go_wp2
              try rw [Exit.noGoto_ret]
              go_ret3
              exact ⟨by rw [HG.out.2.1, HG.out.2.2]; rfl, rfl⟩
    · obtain rfl : k = l.length := by omega
      obtain ⟨e1, e2, e3⟩ := HD.out.none
      have HF : Hid (rN = 0 ∧ rK = 0 ∧ rE = 6) := Lib.hid (by
        obtain ⟨f1, f2, f3⟩ := HR.out
        exact ⟨by rw [← f1, e2], by rw [← f2, e3], by rw [← f3, e1]⟩)
      clear e1 e2 e3
      go_wp2
      try rw [Exit.noGoto_ret]
      go_ret3
      exact ⟨by rw [HF.out.1, HF.out.2.1, HF.out.2.2]; rfl, rfl⟩
end Go.Proofs.Ytegipokbbmnahaa
