import Derived.Test.YtgpdkidbmfngmaaShareA
namespace Go.Proofs.Ytgpdkidbmfngmaa
open Go.RowKit

theorem and_three (t : Nat) (ht : t ≤ 1152921504606846976) : bits BinOp.and IntKind.i64 (t : Int) 3 = ((t % 4 : Nat) : Int) := by
  have h1 : (BitVec.ofInt 64 (t : Int)).toNat = t := by
    rw [BitVec.ofInt_natCast, BitVec.toNat_ofNat]; exact Nat.mod_eq_of_lt (by omega)
  have h2 : (BitVec.ofInt 64 (3 : Int)).toNat = 3 := rfl
  have h3 : t &&& 3 = t % 4 := Nat.and_two_pow_sub_one_eq_mod t 2
  show IntKind.i64.wrap ((BitVec.ofInt 64 (t : Int) &&& BitVec.ofInt 64 (3 : Int)).toNat : Int) = _
  rw [BitVec.toNat_and, h1, h2, h3, IntKind.wrap_i64]
  omega

theorem digit_is (a k : Nat) (ha : a ≤ 1152921504606846976) : bits BinOp.and IntKind.i64 ((a : Int) / 2 ^ (2 * (30 - k))) 3 = SM.digit a k := by
  have e : ((a : Int) / 2 ^ (2 * (30 - k))) = ((a / 4 ^ (30 - k) : Nat) : Int) := by
    rw [Int.natCast_ediv, Int.natCast_pow, Int.pow_mul]; rfl
  rw [e, and_three _ (Nat.le_trans (Nat.div_le_self _ _) ha)]
  rfl

set_option maxHeartbeats 1000000 in
theorem portion_nat (a b c : Nat) (w : World) (ha : a ≤ 1152921504606846976) (hb : b ≤ c) (hc0 : 0 < c) (hc : c ≤ 1152921504606846976) :
    Calls Try.prog 64 #[.int .i64 a, .int .i64 b, .int .i64 c] w fun e w' => e = .returned (.tuple #[.int .i64 (SM.pq a b c), .int .i64 (SM.pr a b c)]) ∧ ∃ n, w' = w.drewN n := by
  go_enter Try.func64, Try.ntmps64
  go_wp2
  go_loopw [6, 7, 11] (fun q r i wr => ∃ k : Nat, ∃ x y : Int, k ≤ 31 ∧ i = .int .i64 k ∧ q = .int .i64 x ∧ r = .int .i64 y ∧ SM.PInv a b c k x y ∧ ∃ n, wr = w.drewN n) (fun _ _ i _ => 31 - (intOf i).toNat)
  case atStart => exact ⟨0, 0, 0, by omega, rfl, rfl, rfl, SM.PInv.start a b c ha, 0, rfl⟩
  case round =>
    obtain ⟨k, x, y, hk, rfl, rfl, rfl, hD, n, rfl⟩ := hrel
    obtain ⟨hx0, hx1, hx2, hy0, hy1⟩ := hD.bounds hc0 hb
    by_cases hlt : k < 31
    · clear hx2
      have hd4 := SM.digit_lt a k
      have ht := digit_is a k ha
      obtain ⟨t, ht2⟩ : ∃ t : Int, (SM.digit a k : Int) = t := ⟨_, rfl⟩
      have t0 : 0 ≤ t := by omega
      have t3 : t ≤ 3 := by omega
      obtain ⟨p, hp⟩ : ∃ p : Int, t * (b : Int) = p := ⟨_, rfl⟩
      have p0 : 0 ≤ p := by rw [← hp]; exact Int.mul_nonneg t0 (by omega)
      have p1 : p ≤ 3 * b := by rw [← hp]; exact Int.mul_le_mul_of_nonneg_right t3 (by omega)
      have hN := hD.step hlt hc0 t (4 * y + p) ht2.symm (by rw [hp])
      obtain ⟨n0, n1, _, n3, n4⟩ := hN.bounds hc0 hb
      have HN := Lib.hid hN
      rw [ht2] at ht
      clear hN ht2 hd4
      have e1 : wrap64 (4 * x + (4 * y + p) / (c : Int)) = 4 * x + (4 * y + p) / (c : Int) := IntWalk.wrap64_in _ (by omega)
      go_wp2
      go_quiet (fail)
      go_wp2
      go_roundw
      case rel => exact ⟨k + 1, _, _, by omega, by go_num, rfl, rfl, HN.out, _, rfl⟩
      case measure => simp [intOf]; omega
    · obtain rfl : k = 31 := by omega
      obtain ⟨d1, d2⟩ := hD.done
      have D1 := Lib.hid d1; have D2 := Lib.hid d2
      clear d1 d2 hx2
      go_wp2
      go_ret2
      exact ⟨by rw [← D1.out, ← D2.out]; rfl, _, rfl⟩

theorem portion_any (a b c : Int) (w : World) (a0 : 0 ≤ a) (ha : a ≤ 1152921504606846976) (b0 : 0 ≤ b) (hb : b ≤ c) (hc0 : 0 < c) (hc : c ≤ 1152921504606846976) :
    Calls Try.prog 64 #[.int .i64 a, .int .i64 b, .int .i64 c] w fun e w' => e = .returned (.tuple #[.int .i64 (SM.pq a b c), .int .i64 (SM.pr a b c)]) ∧ ∃ n, w' = w.drewN n := by
  obtain ⟨x, rfl⟩ := Int.eq_ofNat_of_zero_le a0
  obtain ⟨y, rfl⟩ := Int.eq_ofNat_of_zero_le b0
  obtain ⟨z, rfl⟩ := Int.eq_ofNat_of_zero_le (Int.le_of_lt hc0)
  exact portion_nat x y z w (by omega) (by omega) (by omega) (by omega)

theorem quo_bit (a k : Nat) (hk : k < 61) : (a : Int) / ((1152921504606846976 / 2 ^ k : Nat) : Int) = ((a / 2 ^ (60 - k) : Nat) : Int) := by
  have e : 1152921504606846976 / 2 ^ k = 2 ^ (60 - k) := by
    rw [show 1152921504606846976 = 2 ^ 60 by rfl, Nat.pow_div (by omega) (by omega)]
  rw [e]; rfl
theorem bit_pos (k : Nat) (hk : k < 61) : 0 < 1152921504606846976 / 2 ^ k := by
  rw [show 1152921504606846976 = 2 ^ 60 by rfl, Nat.pow_div (by omega) (by omega)]
  exact Nat.two_pow_pos _
theorem bit_half (k : Nat) : ((1152921504606846976 / 2 ^ k : Nat) : Int) / 2 = ((1152921504606846976 / 2 ^ (k + 1) : Nat) : Int) := by
  rw [Nat.pow_succ, ← Nat.div_div_eq_div_mul]; rfl

/-- the unit of round k -/
def unit (k : Nat) : Int := ((1152921504606846976 / 2 ^ k : Nat) : Int)
theorem unit_le (k : Nat) : 0 ≤ unit k ∧ unit k ≤ 1152921504606846976 := by
  have h := Nat.div_le_self 1152921504606846976 (2 ^ k)
  unfold unit
  generalize 1152921504606846976 / 2 ^ k = u at *
  omega

set_option maxHeartbeats 2000000 in
theorem rdiv_nat (a b c : Nat) (w : World) (ha : a ≤ 1152921504606846976) (hb : b ≤ c) (hc0 : 0 < c) (hc : c ≤ 1152921504606846976) :
    Calls Try.prog 44 #[.int .i64 a, .int .i64 b, .int .i64 c] w fun e w' => e = .returned (.tuple #[.int .i64 (SM.pq a b c), .int .i64 (SM.pr a b c)]) ∧ w = w' := by
  go_enter Try.func44, Try.ntmps44
  go_wp2
  go_loop [8, 9, 10, 11] (fun q r u i => ∃ k : Nat, ∃ x y : Int, k ≤ 61 ∧ i = .int .i64 k ∧ u = .int .i64 (unit k) ∧ q = .int .i64 x ∧ r = .int .i64 y ∧ y < c ∧ SM.BInv a b c k x y) (fun _ _ _ i => 61 - (intOf i).toNat)
  case atStart => exact ⟨0, 0, 0, by omega, rfl, rfl, rfl, rfl, by omega, SM.BInv.start a b c ha⟩
  case round =>
    obtain ⟨k, x, y, hk, rfl, rfl, rfl, rfl, hyc, hD⟩ := hrel
    have hq := hD.q_le hc0 hb
    have hx0 := hD.2.1
    have hy0 := hD.2.2
    by_cases hlt : k < 61
    · obtain ⟨u0, u1⟩ := unit_le k
      have up : 0 < unit k := by have := bit_pos k hlt; unfold unit; omega
      have eh : unit k / 2 = unit (k + 1) := bit_half k
      obtain ⟨d, eb, d0, d1, hbit⟩ : ∃ d : Int, (a : Int) / unit k = d ∧ 0 ≤ d ∧ d ≤ a ∧ d % 2 = SM.bitAt a k := by
        refine ⟨((a / 2 ^ (60 - k) : Nat) : Int), quo_bit a k hlt, Int.natCast_nonneg _, ?_, rfl⟩
        have := Nat.div_le_self a (2 ^ (60 - k)); omega
      obtain ⟨z, z0, z1, HB, tb⟩ : ∃ z : Int, 0 ≤ z ∧ z < 3 * c ∧ Hid (SM.BInv a b c (k + 1) (2 * x) z) ∧
          ((d % 2 == 1) = true ∧ z = 2 * y + b ∨ (d % 2 == 1) = false ∧ z = 2 * y) := by
        rcases SM.bit_01 a k with h0 | h1
        · exact ⟨2 * y, by omega, by omega, hD.double hlt _ (by rw [h0]; omega), .inr ⟨by simp; omega, rfl⟩⟩
        · exact ⟨2 * y + b, by omega, by omega, hD.double hlt _ (by rw [h1]; omega), .inl ⟨by simp; omega, rfl⟩⟩
      have hq2 := SM.BInv.q_le HB.out hc0 hb
      clear hbit hD
      rcases tb with ⟨tb, rfl⟩ | ⟨tb, rfl⟩
      all_goals
        go_wp2
        go_loop [8, 9] (fun q r => ∃ x' y' : Int, q = .int .i64 x' ∧ r = .int .i64 y' ∧ y' < 3 * c ∧ SM.BInv a b c (k + 1) x' y') (fun _ r => (intOf r).toNat)
        case atStart => exact ⟨_, _, rfl, rfl, z1, HB.out⟩
        case round =>
          obtain ⟨x', y', rfl, rfl, hy3, hD⟩ := hrel
          have hq' := hD.q_le hc0 hb
          have hx0' := hD.2.1
          have hy0' := hD.2.2
          by_cases hge : (c : Int) ≤ y'
          · have HL := Lib.hid (hD.less hge)
            go_wp2
            go_round
            case rel => exact ⟨_, _, rfl, rfl, by omega, HL.out⟩
            case measure => simp [intOf]; omega
          · have HD := Lib.hid hD
            clear hD HB
            go_wp2
            go_round
            case rel => exact ⟨k + 1, _, _, by omega, by go_num, by rw [eh], rfl, rfl, by omega, HD.out⟩
            case measure => simp [intOf]; omega
    · obtain rfl : k = 61 := by omega
      obtain ⟨d1, d2⟩ := hD.done hyc
      have D1 := Lib.hid d1; have D2 := Lib.hid d2
      clear d1 d2
      go_wp2
      go_ret2
      exact ⟨by rw [← D1.out, ← D2.out]; rfl, rfl⟩

theorem rdiv_any (a b c : Int) (w : World) (a0 : 0 ≤ a) (ha : a ≤ 1152921504606846976) (b0 : 0 ≤ b) (hb : b ≤ c) (hc0 : 0 < c) (hc : c ≤ 1152921504606846976) :
    Calls Try.prog 44 #[.int .i64 a, .int .i64 b, .int .i64 c] w fun e w' => e = .returned (.tuple #[.int .i64 (SM.pq a b c), .int .i64 (SM.pr a b c)]) ∧ w = w' := by
  obtain ⟨x, rfl⟩ := Int.eq_ofNat_of_zero_le a0
  obtain ⟨y, rfl⟩ := Int.eq_ofNat_of_zero_le b0
  obtain ⟨z, rfl⟩ := Int.eq_ofNat_of_zero_le (Int.le_of_lt hc0)
  exact rdiv_nat x y z w (by omega) (by omega) (by omega) (by omega)
end Go.Proofs.Ytgpdkidbmfngmaa
