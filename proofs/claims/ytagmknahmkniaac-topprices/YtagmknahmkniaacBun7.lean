/- Put together: CentsA, CentsB, CentsC, CentsD, TapE, TapF, Vals, Txt. -/
import Derived.Test.YtagmknahmkniaacRows
import Derived.Test.YtagmknahmkniaacBun1
import Derived.WalkKit
import Derived.WalkSpells
import Derived.WalkLawsBesides
import Derived.IntWalk
import Derived.Lib.Hide
import Derived.Deep.QuietTactic
import Derived.BigQuiet
import Derived.Laws.BitsAllLaws
import Derived.Laws.BitsLemmas
import Derived.Test.YtagmknahmkniaacBun5
import Derived.Test.YtagmknahmkniaacBun6
import Derived.Deep.RegionHeld3
import Derived.Test.YtagmknahmkniaacBun2
import Derived.Laws.IdiomStrings
import Derived.Laws.Concat
/- Contracts of layer 1's small functions and of their references. -/
namespace Go.Proofs.Ytagmknahmkniaac
open Go.RowKit

theorem fits_any (n : Int) (w : World) :
    Calls Try.prog 11 #[.int .i64 n] w fun e w' => e = .returned (.bool (CM.fits n)) ∧ w = w' := by
  by_cases h1 : -1152921504606846976 ≤ n
  · by_cases h2 : n ≤ 1152921504606846976
    · have h : CM.fits n = true := CM.fits_true.2 ⟨h1, h2⟩
      rw [h]; clear h
      go_enter Try.func11, Try.ntmps11
      go_wp2
      go_ret
      exact ⟨rfl, rfl⟩
    · have h : CM.fits n = false := CM.fits_false.2 (by omega)
      rw [h]; clear h
      go_enter Try.func11, Try.ntmps11
      go_wp2
      go_ret
      exact ⟨rfl, rfl⟩
  · have h : CM.fits n = false := CM.fits_false.2 (by omega)
    rw [h]; clear h
    go_enter Try.func11, Try.ntmps11
    go_wp2
    go_ret
    exact ⟨rfl, rfl⟩

theorem fitting_any (n : Int) (w : World) :
    Calls Try.prog 102 #[.int .i64 n] w fun e w' => e = .returned (.tuple #[.int .i64 (CM.fitN n), .int .i64 (CM.fitE n)]) ∧ w = w' := by
  cases h : CM.fits n
  · have hn : CM.fitN n = 0 := by simp [CM.fitN, h]
    have he : CM.fitE n = 3 := by simp [CM.fitE, h]
    rw [hn, he]; clear hn he
    go_enter Try.func102, Try.ntmps102
    go_wp2_with (go_at_call 11; refine (fits_any _ _).mono ?_; rintro e w' ⟨rfl, rfl⟩)
    go_ret2
    exact ⟨rfl, rfl⟩
  · have hn : CM.fitN n = n := by simp [CM.fitN, h]
    have he : CM.fitE n = 0 := by simp [CM.fitE, h]
    rw [hn, he]; clear hn he
    go_enter Try.func102, Try.ntmps102
    go_wp2_with (go_at_call 11; refine (fits_any _ _).mono ?_; rintro e w' ⟨rfl, rfl⟩)
    go_ret2
    exact ⟨rfl, rfl⟩

theorem clamp_any (n low high : Int) (w : World) :
    Calls Try.prog 16 #[.int .i64 n, .int .i64 low, .int .i64 high] w fun e w' => e = .returned (.int .i64 (CM.clamp n low high)) ∧ w = w' := by
  by_cases h1 : n < low
  · have h : CM.clamp n low high = low := by simp [CM.clamp, h1]
    rw [h]; clear h
    go_enter Try.func16, Try.ntmps16
    go_wp2
    go_ret
    exact ⟨rfl, rfl⟩
  · by_cases h2 : high < low
    · have h : CM.clamp n low high = low := by simp [CM.clamp, h2]
      rw [h]; clear h
      go_enter Try.func16, Try.ntmps16
      go_wp2
      go_ret
      exact ⟨rfl, rfl⟩
    · by_cases h3 : high < n
      · have h : CM.clamp n low high = high := by simp [CM.clamp, h1, h2, h3]
        rw [h]; clear h
        go_enter Try.func16, Try.ntmps16
        go_wp2
        go_ret
        exact ⟨rfl, rfl⟩
      · have h : CM.clamp n low high = n := by simp [CM.clamp, h1, h2, h3]
        rw [h]; clear h
        go_enter Try.func16, Try.ntmps16
        go_wp2
        go_ret
        exact ⟨rfl, rfl⟩

theorem size_any (n : Int) (w : World) (h1 : -1152921504606846976 ≤ n) (h2 : n ≤ 1152921504606846976) :
    Calls Try.prog 100 #[.int .i64 n] w fun e w' => e = .returned (.int .i64 (CM.size n)) ∧ w = w' := by
  by_cases h : n < 0
  · have hs : CM.size n = -n := by simp [CM.size, h]
    rw [hs]; clear hs
    go_enter Try.func100, Try.ntmps100
    go_wp2
    go_ret
    exact ⟨rfl, rfl⟩
  · have hs : CM.size n = n := by simp [CM.size, h]
    rw [hs]; clear hs
    go_enter Try.func100, Try.ntmps100
    go_wp2
    go_ret
    exact ⟨rfl, rfl⟩

end Go.Proofs.Ytagmknahmkniaac

namespace Go.Proofs.Ytagmknahmkniaac
open Go.RowKit

theorem ofInt_i64 (a : Nat) (ha : a < 9223372036854775808) : (BitVec.ofInt 64 (a : Int)).toNat = a := by
  rw [BitVec.ofInt_natCast, BitVec.toNat_ofNat]; exact Nat.mod_eq_of_lt (by omega)
theorem i64_and_nat (a b : Nat) (ha : a < 9223372036854775808) (hb : b < 9223372036854775808) : bits .and .i64 (a : Int) (b : Int) = ((a &&& b : Nat) : Int) := by
  have hx : a &&& b < 2 ^ 63 := Nat.and_lt_two_pow _ (by omega)
  show IntKind.i64.wrap ((BitVec.ofInt 64 (a : Int) &&& BitVec.ofInt 64 (b : Int)).toNat : Int) = _
  rw [BitVec.toNat_and, ofInt_i64 a ha, ofInt_i64 b hb, IntKind.wrap_i64]
  omega

theorem div_pow_le (a j : Nat) : a / 2 ^ j ≤ a := Nat.div_le_self _ _

theorem bit_test (a k : Nat) (ha : a ≤ 1152921504606846976) :
    (bits BinOp.and IntKind.i64 ((a : Int) / 2 ^ (60 - k)) 1 == 1) = decide (CM.bitAt a k = 1) := by
  have e : ((a : Int) / 2 ^ (60 - k)) = ((a / 2 ^ (60 - k) : Nat) : Int) := by
    rw [Int.natCast_ediv, Int.natCast_pow]; rfl
  have hl := div_pow_le a (60 - k)
  have h := i64_and_nat (a / 2 ^ (60 - k)) 1 (by omega) (by omega)
  rw [e, show (1 : Int) = ((1 : Nat) : Int) from rfl, h, Nat.and_one_is_mod]
  unfold CM.bitAt
  generalize a / 2 ^ (60 - k) % 2 = t
  rw [Bool.eq_iff_iff]; simp; omega

theorem bit_test2 (a k : Nat) :
    ((((a : Int) / 2 ^ (60 - k)).tmod 2) == 1) = decide (CM.bitAt a k = 1) := by
  have e : ((a : Int) / 2 ^ (60 - k)) = ((a / 2 ^ (60 - k) : Nat) : Int) := by
    rw [Int.natCast_ediv, Int.natCast_pow]; rfl
  rw [e, Int.tmod_eq_emod_of_nonneg (Int.natCast_nonneg _)]
  unfold CM.bitAt
  generalize a / 2 ^ (60 - k) = t
  rw [Bool.eq_iff_iff]; simp; omega

set_option maxHeartbeats 400000 in
theorem divide_any (a b c : Nat) (w : World) (ha : a ≤ 1152921504606846976) (hb : b ≤ 1152921504606846976) (hc0 : 0 < c) (hc : c ≤ 1152921504606846976) :
    Calls Try.prog 99 #[.int .i64 a, .int .i64 b, .int .i64 c] w fun e w' => e = .returned (.tuple #[.int .i64 (CM.dq a b c), .int .i64 (CM.dr a b c), .bool (CM.dok a b c)]) ∧ ∃ n, w' = w.drewN n := by
  go_enter Try.func99, Try.ntmps99
  go_wp2
  go_loopw [6, 7, 10] (fun q r i wr => ∃ k : Nat, ∃ x y : Int, k ≤ 61 ∧ i = .int .i64 k ∧ q = .int .i64 x ∧ r = .int .i64 y ∧ CM.DInv a b c k x y ∧ ∃ n, wr = w.drewN n) (fun _ _ i _ => 61 - (intOf i).toNat)
  case atStart => exact ⟨0, 0, 0, by omega, rfl, rfl, rfl, CM.DInv.start a b c ha, 0, rfl⟩
  case round =>
    obtain ⟨k, x, y, hk, rfl, rfl, rfl, hD, n, rfl⟩ := hrel
    obtain ⟨hx0, hx1, hy0, hy1⟩ := hD.bounds hc0
    by_cases hlt : k < 61
    · have ht := bit_test a k ha
      rcases CM.bit_01 a k with h0 | h1
      · rw [show decide (CM.bitAt a k = 1) = false from by simp [h0]] at ht
        obtain ⟨s1, s2⟩ := hD.step0 hlt hc0 h0
        have S1 := Lib.hid s1; have S2 := Lib.hid s2
        clear h0 s1 s2
        obtain ⟨q0, q1⟩ := IntWalk.tdiv_le (2 * y) c (by omega) (by omega)
        have e1 : wrap64 (2 * x + 2 * y / (c : Int)) = 2 * x + 2 * y / (c : Int) := IntWalk.wrap64_in _ (by omega)
        have hlow : 0 ≤ 2 * x + 2 * y / (c : Int) := by omega
        cases hf : CM.fits (2 * x + 2 * y / (c : Int))
        · have HN : Hid (1152921504606846976 < a * b / c) := S2.out (by rcases CM.fits_false.1 hf with h | h <;> omega)
          go_wp2
          go_quiet (fail)
          go_wp2_with (go_at_call 11; refine (fits_any _ _).mono ?_; rintro e w' ⟨rfl, rfl⟩)
          go_ret3
          obtain ⟨n1, n2, n3⟩ := CM.dok_no HN.out
          exact ⟨by rw [n1, n2, n3]; rfl, _, rfl⟩
        · have HY := Lib.hid (S1.out (CM.fits_true.1 hf).2)
          go_wp2
          go_quiet (fail)
          go_wp2_with (go_at_call 11; refine (fits_any _ _).mono ?_; rintro e w' ⟨rfl, rfl⟩)
          go_roundw
          case rel => exact ⟨k + 1, _, _, by omega, by go_num, rfl, rfl, HY.out, _, rfl⟩
          case measure => simp [intOf]; omega
      · rw [show decide (CM.bitAt a k = 1) = true from by simp [h1]] at ht
        obtain ⟨s1, s2⟩ := hD.step1 hlt hc0 h1
        have S1 := Lib.hid s1; have S2 := Lib.hid s2
        clear h1 s1 s2
        obtain ⟨p0, p1⟩ := IntWalk.tdiv_le (b : Int) c (by omega) (by omega)
        have m0 : 0 ≤ (b : Int) % (c : Int) := Int.emod_nonneg _ (by omega)
        have m1 : (b : Int) % (c : Int) < c := Int.emod_lt_of_pos _ (by omega)
        have hy2 : 0 ≤ 2 * y + (b : Int) % (c : Int) := by omega
        obtain ⟨q0, q1⟩ := IntWalk.tdiv_le (2 * y + (b : Int) % (c : Int)) c (by omega) (by omega)
        have e0 : wrap64 ((b : Int) / (c : Int)) = (b : Int) / (c : Int) := IntWalk.wrap64_in _ (by omega)
        have e1 : wrap64 (2 * x + (b : Int) / (c : Int)) = 2 * x + (b : Int) / (c : Int) := IntWalk.wrap64_in _ (by omega)
        have e2 : wrap64 (2 * y + (b : Int) % (c : Int)) = 2 * y + (b : Int) % (c : Int) := IntWalk.wrap64_in _ (by omega)
        have hq3 : (2 * y + (b : Int) % (c : Int)) / (c : Int) ≤ 3 := by
          have : (2 * y + (b : Int) % (c : Int)) < 4 * (c : Int) := by omega
          have := Int.ediv_lt_of_lt_mul (by omega) this
          omega
        have e3 : wrap64 ((2 * y + (b : Int) % (c : Int)) / (c : Int)) = (2 * y + (b : Int) % (c : Int)) / (c : Int) := IntWalk.wrap64_in _ (by omega)
        have e4 : wrap64 (2 * x + (b : Int) / (c : Int) + (2 * y + (b : Int) % (c : Int)) / (c : Int)) = 2 * x + (b : Int) / (c : Int) + (2 * y + (b : Int) % (c : Int)) / (c : Int) := IntWalk.wrap64_in _ (by omega)
        have e5 : (2 * y + (b : Int) % (c : Int)).tdiv (c : Int) = (2 * y + (b : Int) % (c : Int)) / (c : Int) := Int.tdiv_eq_ediv_of_nonneg hy2
        have e6 : (2 * y + (b : Int) % (c : Int)).tmod (c : Int) = (2 * y + (b : Int) % (c : Int)) % (c : Int) := Int.tmod_eq_emod_of_nonneg hy2
        have hlow : 0 ≤ 2 * x + (b : Int) / (c : Int) + (2 * y + (b : Int) % (c : Int)) / (c : Int) := by omega
        cases hf : CM.fits (2 * x + (b : Int) / (c : Int) + (2 * y + (b : Int) % (c : Int)) / (c : Int))
        · have HN : Hid (1152921504606846976 < a * b / c) := S2.out (by rcases CM.fits_false.1 hf with h | h <;> omega)
          go_wp2
          go_quiet (fail)
          go_wp2
          go_quiet (fail)
          go_wp2_with (go_at_call 11; refine (fits_any _ _).mono ?_; rintro e w' ⟨rfl, rfl⟩)
          go_ret3
          obtain ⟨n1, n2, n3⟩ := CM.dok_no HN.out
          exact ⟨by rw [n1, n2, n3]; rfl, _, rfl⟩
        · have HY := Lib.hid (S1.out (CM.fits_true.1 hf).2)
          go_wp2
          go_quiet (fail)
          go_wp2
          go_quiet (fail)
          go_wp2_with (go_at_call 11; refine (fits_any _ _).mono ?_; rintro e w' ⟨rfl, rfl⟩)
          go_roundw
          case rel => exact ⟨k + 1, _, _, by omega, by go_num, rfl, rfl, (by simpa using HY.out), _, rfl⟩
          case measure => simp [intOf]; omega
    · obtain rfl : k = 61 := by omega
      obtain ⟨d1, d2, d3⟩ := hD.done
      have D1 := Lib.hid d1; have D2 := Lib.hid d2; have D3 := Lib.hid d3
      clear d1 d2 d3
      go_wp2
      go_ret3
      exact ⟨by rw [← D1.out, ← D2.out, D3.out]; rfl, _, rfl⟩

theorem divide_int (a b c : Int) (w : World) (a0 : 0 ≤ a) (ha : a ≤ 1152921504606846976) (b0 : 0 ≤ b) (hb : b ≤ 1152921504606846976) (hc0 : 0 < c) (hc : c ≤ 1152921504606846976) :
    Calls Try.prog 99 #[.int .i64 a, .int .i64 b, .int .i64 c] w fun e w' => e = .returned (.tuple #[.int .i64 (CM.dq a.toNat b.toNat c.toNat), .int .i64 (CM.dr a.toNat b.toNat c.toNat), .bool (CM.dok a.toNat b.toNat c.toNat)]) ∧ ∃ n, w' = w.drewN n := by
  obtain ⟨x, rfl⟩ := Int.eq_ofNat_of_zero_le a0
  obtain ⟨y, rfl⟩ := Int.eq_ofNat_of_zero_le b0
  obtain ⟨z, rfl⟩ := Int.eq_ofNat_of_zero_le (Int.le_of_lt hc0)
  rw [Int.toNat_natCast, Int.toNat_natCast, Int.toNat_natCast]
  exact divide_any x y z w (by omega) (by omega) (by omega) (by omega)

end Go.Proofs.Ytagmknahmkniaac

namespace Go.Proofs.Ytagmknahmkniaac
open Go.RowKit
set_option maxHeartbeats 400000 in
theorem rounding_any (q r d : Int) (n : Bool) (w : World) :
    Calls Try.prog 101 #[.int .i64 q, .int .i64 r, .int .i64 d, .bool n] w fun e w' =>
      e = .returned (.func (.func 109) #[] #[.pointer (some ⟨w.heap.size + 1, 0, none⟩), .pointer (some ⟨w.heap.size + 1 + 1 + 1, 0, none⟩), .pointer (some ⟨w.heap.size + 1 + 1, 0, none⟩), .pointer (some ⟨w.heap.size, 0, none⟩)]) ∧
      w' = (((w.alloc (.cells #[.int .i64 q] 3)).alloc (.cells #[.int .i64 r] 3)).alloc (.cells #[.int .i64 d] 3)).alloc (.cells #[.bool n] 4) := by
  go_enter Try.func101, Try.ntmps101
  go_wp2
  go_ret
  exact ⟨rfl, rfl⟩

set_option maxHeartbeats 1000000 in
theorem grow_any (mode q r d : Int) (n : Bool) (p1 p2 p3 p4 : Addr) (w : World) (hm1 : 1 ≤ mode) (hm5 : mode ≤ 5)
    (h1 : w.cell? p1 = some (.int .i64 r)) (h2 : w.cell? p2 = some (.bool n)) (h3 : w.cell? p3 = some (.int .i64 d)) (h4 : w.cell? p4 = some (.int .i64 q))
    (hr0 : 0 ≤ r) (hr : r < d) (hd : d ≤ 1152921504606846976) (hq : 0 ≤ q) (hq1 : q ≤ 1152921504606846976) :
    Calls Try.prog 109 #[.int .i64 mode, .pointer (some p1), .pointer (some p2), .pointer (some p3), .pointer (some p4)] w fun e w' =>
      e = .returned (.bool (CM.grow q r d mode n)) ∧ w = w' := by
  by_cases hz : r = 0
  · subst hz
    have hg : CM.grow q 0 d mode n = false := by simp [CM.grow]
    rw [hg]; clear hg
    go_enter Try.func109, Try.ntmps109
    go_wp2
    go_ret
    exact ⟨rfl, rfl⟩
  · have hz' : (r == 0) = false := by simpa using hz
    have hm : mode = 1 ∨ mode = 2 ∨ mode = 3 ∨ mode = 4 ∨ mode = 5 := by omega
    rcases hm with rfl | rfl | rfl | rfl | rfl
    · have hg : CM.grow q r d 1 n = false := by simp [CM.grow]
      rw [hg]; clear hg hz
      go_enter Try.func109, Try.ntmps109
      go_wp2
      go_ret
      exact ⟨rfl, rfl⟩
    · have hg : CM.grow q r d 2 n = true := by simp [CM.grow, hz]
      rw [hg]; clear hg hz
      go_enter Try.func109, Try.ntmps109
      go_wp2
      go_ret
      exact ⟨rfl, rfl⟩
    · have hg : CM.grow q r d 3 n = n := by simp [CM.grow, hz]
      rw [hg]; clear hg hz
      go_enter Try.func109, Try.ntmps109
      go_wp2
      go_ret
      exact ⟨rfl, rfl⟩
    · have hg : CM.grow q r d 4 n = !n := by simp [CM.grow, hz]
      rw [hg]; clear hg hz
      go_enter Try.func109, Try.ntmps109
      go_wp2
      go_ret
      exact ⟨rfl, rfl⟩
    · by_cases g1 : d < 2 * r
      · have hg : CM.grow q r d 5 n = true := by simp [CM.grow, hz, g1]
        rw [hg]; clear hg hz
        go_enter Try.func109, Try.ntmps109
        go_wp2
        go_ret
        exact ⟨rfl, rfl⟩
      · by_cases g2 : 2 * r = d
        · subst g2
          cases g3 : decide (q % 2 = 1)
          · have hg : CM.grow q r (2 * r) 5 n = false := by simpa [CM.grow, hz] using g3
            rw [hg]; clear hg hz
            have g3' : (q % 2 == 1) = false := by simpa using g3
            clear g3
            go_enter Try.func109, Try.ntmps109
            go_wp2
            go_ret
            exact ⟨rfl, rfl⟩
          · have hg : CM.grow q r (2 * r) 5 n = true := by simpa [CM.grow, hz] using g3
            rw [hg]; clear hg hz
            have g3' : (q % 2 == 1) = true := by simpa using g3
            clear g3
            go_enter Try.func109, Try.ntmps109
            go_wp2
            go_ret
            exact ⟨rfl, rfl⟩
        · have hg : CM.grow q r d 5 n = false := by simp [CM.grow, hz, g1, g2]
          rw [hg]; clear hg hz
          have g2' : (2 * r == d) = false := by simpa using g2
          clear g2
          go_enter Try.func109, Try.ntmps109
          go_wp2
          go_ret
          exact ⟨rfl, rfl⟩

theorem cell_fresh (v : World) (q : Int) : (v.alloc (.cells #[.int .i64 q] 3)).cell? ⟨v.heap.size, 0, none⟩ = some (.int .i64 q) := by go_simp

theorem grow_new (mode q r d : Int) (n : Bool) (w : World) (k : Nat) (hm1 : 1 ≤ mode) (hm5 : mode ≤ 5)
    (hr0 : 0 ≤ r) (hr : r < d) (hd : d ≤ 1152921504606846976) (hq : 0 ≤ q) (hq1 : q ≤ 1152921504606846976) :
    Calls Try.prog 109 #[.int .i64 mode, .pointer (some ⟨w.heap.size + 1, 0, none⟩), .pointer (some ⟨w.heap.size + 1 + 1 + 1, 0, none⟩), .pointer (some ⟨w.heap.size + 1 + 1, 0, none⟩), .pointer (some ⟨w.heap.size, 0, none⟩)]
      (((((w.drewN k).alloc (.cells #[.int .i64 q] 3)).alloc (.cells #[.int .i64 r] 3)).alloc (.cells #[.int .i64 d] 3)).alloc (.cells #[.bool n] 4)) fun e w' =>
      e = .returned (.bool (CM.grow q r d mode n)) ∧ ((((w.drewN k).alloc (.cells #[.int .i64 q] 3)).alloc (.cells #[.int .i64 r] 3)).alloc (.cells #[.int .i64 d] 3)).alloc (.cells #[.bool n] 4) = w' :=
  grow_any mode q r d n _ _ _ _ _ hm1 hm5 (by go_simp) (by go_simp) (by go_simp) (by go_simp; exact cell_fresh (w.drewN k) q) hr0 hr hd hq hq1

theorem muldiv_arg (a b c mode : Int) (w : World) (h : CM.mdA a b c mode = false) :
    Calls Try.prog 83 #[.int .i64 a, .int .i64 b, .int .i64 c, .int .i64 mode] w fun e w' => e = .returned (.tuple #[.int .i64 0, .int .i64 2]) ∧ w = w' := by
  cases ha : CM.fits a
  · clear h
    go_enter Try.func83, Try.ntmps83
    go_wp2_with (go_at_call 11; refine (fits_any _ _).mono ?_; rintro e w' ⟨rfl, rfl⟩)
    go_ret2
    exact ⟨rfl, rfl⟩
  · cases hb : CM.fits b
    · clear h
      go_enter Try.func83, Try.ntmps83
      go_wp2_with (go_at_call 11; refine (fits_any _ _).mono ?_; rintro e w' ⟨rfl, rfl⟩)
      go_ret2
      exact ⟨rfl, rfl⟩
    · cases hc : CM.fits c
      · clear h
        go_enter Try.func83, Try.ntmps83
        go_wp2_with (go_at_call 11; refine (fits_any _ _).mono ?_; rintro e w' ⟨rfl, rfl⟩)
        go_ret2
        exact ⟨rfl, rfl⟩
      · simp [CM.mdA, ha, hb, hc] at h
        by_cases hm : mode < 1
        · clear h
          go_enter Try.func83, Try.ntmps83
          go_wp2_with (go_at_call 11; refine (fits_any _ _).mono ?_; rintro e w' ⟨rfl, rfl⟩)
          go_ret2
          exact ⟨rfl, rfl⟩
        · have hm5 : 5 < mode := by omega
          clear h
          go_enter Try.func83, Try.ntmps83
          go_wp2_with (go_at_call 11; refine (fits_any _ _).mono ?_; rintro e w' ⟨rfl, rfl⟩)
          go_ret2
          exact ⟨rfl, rfl⟩

theorem mdA_parts {a b c mode : Int} (h : CM.mdA a b c mode = true) : CM.fits a = true ∧ CM.fits b = true ∧ CM.fits c = true ∧ 1 ≤ mode ∧ mode ≤ 5 := by
  simp [CM.mdA] at h
  obtain ⟨⟨⟨⟨h1, h2⟩, h3⟩, h4⟩, h5⟩ := h
  exact ⟨h1, h2, h3, h4, h5⟩

theorem muldiv_zero (a b mode : Int) (w : World) (h : CM.mdA a b 0 mode = true) :
    Calls Try.prog 83 #[.int .i64 a, .int .i64 b, .int .i64 0, .int .i64 mode] w fun e w' => e = .returned (.tuple #[.int .i64 0, .int .i64 4]) ∧ w = w' := by
  obtain ⟨ha, hb, hc, h1, h5⟩ := mdA_parts h
  clear h
  go_enter Try.func83, Try.ntmps83
  go_wp2_with (go_at_call 11; refine (fits_any _ _).mono ?_; rintro e w' ⟨rfl, rfl⟩)
  go_ret2
  exact ⟨rfl, rfl⟩

set_option maxHeartbeats 400000 in
theorem muldiv_over (a b c mode : Int) (w : World) (h : CM.mdA a b c mode = true) (hc0 : (c == 0) = false)
    (hk : CM.dok (CM.size a).toNat (CM.size b).toNat (CM.size c).toNat = false) :
    Calls Try.prog 83 #[.int .i64 a, .int .i64 b, .int .i64 c, .int .i64 mode] w fun e w' => e = .returned (.tuple #[.int .i64 0, .int .i64 3]) ∧ ∃ n, w' = w.drewN n := by
  obtain ⟨ha, hb, hc, hm1, hm5⟩ := mdA_parts h
  clear h
  obtain ⟨a1, a2⟩ := CM.fits_true.1 ha
  obtain ⟨b1, b2⟩ := CM.fits_true.1 hb
  obtain ⟨c1, c2⟩ := CM.fits_true.1 hc
  have sa0 := CM.size_nonneg a
  have sa1 := CM.size_le a1 a2
  have sb0 := CM.size_nonneg b
  have sb1 := CM.size_le b1 b2
  have sc0 : 0 < CM.size c := CM.size_pos (by simpa using hc0)
  have sc1 := CM.size_le c1 c2
  go_enter Try.func83, Try.ntmps83
  go_wp2_with (first
    | (go_at_call 11; refine (fits_any _ _).mono ?_; rintro e w' ⟨rfl, rfl⟩)
    | (go_at_call 100; refine (size_any _ _ (by assumption) (by assumption)).mono ?_; rintro e w' ⟨rfl, rfl⟩)
    | (go_at_call 99; refine (divide_int _ _ _ _ (by assumption) (by assumption) (by assumption) (by assumption) (by assumption) (by assumption)).mono ?_; rintro e w' ⟨rfl, n, rfl⟩))
  go_ret2
  exact ⟨rfl, _, rfl⟩

set_option maxHeartbeats 1000000 in
theorem muldiv_in (a b c mode : Int) (w : World) (h : CM.mdA a b c mode = true) (hc0 : (c == 0) = false)
    (hk : CM.dok (CM.size a).toNat (CM.size b).toNat (CM.size c).toNat = true) :
    Calls Try.prog 83 #[.int .i64 a, .int .i64 b, .int .i64 c, .int .i64 mode] w fun e w' => e = .returned (.tuple #[.int .i64 (CM.mdN a b c mode), .int .i64 (CM.mdE a b c mode)]) ∧ Below w.heap.size w w' := by
  have hcn : c ≠ 0 := by simpa using hc0
  have HF := Lib.hid (fun g => @CM.md_fit a b c mode g h hcn)
  obtain ⟨ha, hb, hc, hm1, hm5⟩ := mdA_parts h
  clear h
  obtain ⟨a1, a2⟩ := CM.fits_true.1 ha
  obtain ⟨b1, b2⟩ := CM.fits_true.1 hb
  obtain ⟨c1, c2⟩ := CM.fits_true.1 hc
  have sa0 := CM.size_nonneg a
  have sa1 := CM.size_le a1 a2
  have sb0 := CM.size_nonneg b
  have sb1 := CM.size_le b1 b2
  have sc0 : 0 < CM.size c := CM.size_pos hcn
  have sc1 := CM.size_le c1 c2
  obtain ⟨e1, e2⟩ := CM.dq_eq hk
  have r1 := CM.mdR_lt a b hcn
  have r0 : (0 : Int) ≤ CM.mdR a b c := Int.natCast_nonneg _
  have q0 := CM.mdQ_nonneg a b c
  have q1 := CM.dok_iff.1 hk
  clear hcn
  have hneg : (!((!(decide (a < 0) == decide (b < 0))) == decide (c < 0))) = CM.neg a b c := rfl
  cases hg : CM.grow (CM.mdQ a b c) (CM.mdR a b c) (CM.size c) mode (CM.neg a b c)
  all_goals
    cases hn : CM.neg a b c
    all_goals
      rw [hn] at hg
      have HG : Hid (CM.mdG a b c mode = _) := Lib.hid (show CM.mdG a b c mode = CM.mdQ a b c + _ from by unfold CM.mdG; rw [hn, hg])
      simp only [if_true, if_false, Bool.false_eq_true] at HG
      have HN := Lib.hid hn
      rw [hn] at hneg
      clear hn
      go_enter Try.func83, Try.ntmps83
      go_wp2_with (first
        | (go_at_call 11; refine (fits_any _ _).mono ?_; rintro e w' ⟨rfl, rfl⟩)
        | (go_at_call 100; refine (size_any _ _ (by assumption) (by assumption)).mono ?_; rintro e w' ⟨rfl, rfl⟩)
        | (go_at_call 99; refine (divide_int _ _ _ _ (by assumption) (by assumption) (by assumption) (by assumption) (by assumption) (by assumption)).mono ?_; rintro e w' ⟨rfl, n, rfl⟩)
        | (go_at_call 101; refine (rounding_any _ _ _ _ _).mono ?_; rintro e w' ⟨rfl, rfl⟩)
        | (go_at_call 109; refine (grow_new _ _ _ _ _ _ _ (by assumption) (by assumption) (by assumption) (by assumption) (by assumption) (by assumption) (by assumption)).mono ?_; rintro e w' ⟨rfl, rfl⟩)
        | (go_at_call 102; refine (fitting_any _ _).mono ?_; rintro e w' ⟨rfl, rfl⟩))
      go_ret2
      refine ⟨?_, ?_⟩
      · obtain ⟨f1, f2⟩ := HF.out _ rfl
        rw [HN.out, HG.out] at f1 f2
        simp only [if_true, if_false, Bool.false_eq_true, Int.add_zero] at f1 f2
        rw [← f1, ← f2]; rfl
      · exact ((((below_drewN (Below.refl _ _) n).alloc (Nat.le_refl _) _).alloc (by simp) _).alloc (by simp <;> omega) _).alloc (by simp <;> omega) _

theorem muldiv_any (a b c mode : Int) (w : World) :
    Calls Try.prog 83 #[.int .i64 a, .int .i64 b, .int .i64 c, .int .i64 mode] w fun e w' => e = .returned (.tuple #[.int .i64 (CM.mdN a b c mode), .int .i64 (CM.mdE a b c mode)]) ∧ Below w.heap.size w w' := by
  cases h : CM.mdA a b c mode
  · have e1 : CM.mdN a b c mode = 0 := by simp [CM.mdN, h]
    have e2 : CM.mdE a b c mode = 2 := by simp [CM.mdE, h]
    rw [e1, e2]
    exact (muldiv_arg a b c mode w h).mono fun _ _ ⟨he, hw⟩ => ⟨he, by subst hw; exact Below.refl _ _⟩
  · by_cases hc : c = 0
    · subst hc
      have e1 : CM.mdN a b 0 mode = 0 := by simp [CM.mdN]
      have e2 : CM.mdE a b 0 mode = 4 := by simp [CM.mdE, h]
      rw [e1, e2]
      exact (muldiv_zero a b mode w h).mono fun _ _ ⟨he, hw⟩ => ⟨he, by subst hw; exact Below.refl _ _⟩
    · cases hk : CM.dok (CM.size a).toNat (CM.size b).toNat (CM.size c).toNat
      · obtain ⟨e1, e2⟩ := CM.md_over h hc (by
          have := (not_congr (@CM.dok_iff a b c)).1 (by rw [hk]; simp)
          omega)
        rw [e1, e2]
        exact (muldiv_over a b c mode w h (by simpa using hc) hk).mono fun _ _ ⟨he, n, hw⟩ => ⟨he, by subst hw; exact below_drewN (Below.refl _ _) n⟩
      · exact muldiv_in a b c mode w h (by simpa using hc) hk
end Go.Proofs.Ytagmknahmkniaac

namespace Go.Proofs.Ytagmknahmkniaac
open Go.RowKit
end Go.Proofs.Ytagmknahmkniaac

/- Contracts of layer 17: Volume, Vwap. -/
namespace Go.Proofs.Ytagmknahmkniaac
open Go.RowKit Go.Recs
set_option linter.unusedVariables false
set_option linter.unusedSimpArgs false
set_option maxHeartbeats 2000000 in
theorem volume_any (A : Option Addr) (l : List TP.Tick) (n cap : Nat) (hn : n = l.length) (w : World) (hI : Ticks w A l) :
    Calls Try.prog 81 #[.slice A n cap] w fun e w' => e = .returned (.tuple #[.int .i64 (TP.volN l), .int .i64 (TP.allE l)]) ∧ Below w.heap.size w w' := by
  have C1 := Lib.hid (tcheck_any A l n cap hn w hI)
  by_cases h : TP.allE l = 0
  · have e : TP.volN l = TP.vol l := by unfold TP.volN; rw [if_pos h]
    have C2 := Lib.hid (fun ww hh => totals_any A l n cap hn ww hh (TP.good h))
    have HI := Lib.hid hI
    rw [h] at C1 ⊢
    rw [e]
    generalize TP.vol l = x at *
    generalize TP.val l = y at *
    clear h e hI hn
    go_enter Try.func81, Try.ntmps81
    go_wp2_with fail
    refine C1.out.mono ?_
    rintro e w1 ⟨rfl, b1⟩
    have HB1 := Lib.hid b1
    clear b1
    go_wp2_with fail
    refine (C2.out _ (HI.out.below HB1.out)).mono ?_
    rintro e w2 ⟨rfl, b2⟩
    have HB2 := Lib.hid (HB1.out.trans (b2.mono HB1.out.size))
    clear b2
    go_wp2_with fail
    go_ret2
    exact ⟨rfl, HB2.out⟩
  · have e : TP.volN l = 0 := by unfold TP.volN; rw [if_neg h]
    rw [e]
    generalize TP.allE l = x at *
    have h2 : (x != 0) = true := by simpa using h
    clear e hI hn
    go_enter Try.func81, Try.ntmps81
    go_wp2_with fail
    refine C1.out.mono ?_
    rintro e w1 ⟨rfl, b1⟩
    have HB1 := Lib.hid b1
    clear b1
    go_wp2_with fail
    go_ret2
    exact ⟨rfl, HB1.out⟩
set_option maxRecDepth 100000 in
set_option maxHeartbeats 4000000 in
theorem vwap_any (A : Option Addr) (l : List TP.Tick) (n cap : Nat) (step mode : Int) (hn : n = l.length) (w : World) (hI : Ticks w A l) :
    Calls Try.prog 47 #[.slice A n cap, .int .i64 step, .int .i64 mode] w fun e w' => e = .returned (.tuple #[.int .i64 (TP.vwN l step mode), .int .i64 (TP.vwE l step mode)]) ∧ Below w.heap.size w w' := by
  have hlen := hI.len
  have C1 := Lib.hid (tcheck_any A l n cap hn w hI)
  have C3 := Lib.hid (fun n a b ww => within17_any n a b ww)
  by_cases h : TP.allE l = 0
  · have HI := Lib.hid hI
    have KS := Lib.hid (@TP.vw_step l step mode h); have KM := Lib.hid (@TP.vw_mode l step mode h); have KN := Lib.hid (@TP.vw_none l step mode h); have KO := Lib.hid (@TP.vw_ok l step mode h)
    have HG := Lib.hid (TP.good h)
    have C2 := Lib.hid (fun ww hh => totals_any A l n cap hn ww hh (TP.good h))
    have C4 := Lib.hid (fun a c ww => muldiv_any a 1 c mode ww)
    have KB := Lib.hid (@TP.vw_bounds l step mode HG.out)
    rw [h] at C1
    subst hn
    clear h hI
    generalize TP.vwE l step mode = y at *
    generalize TP.vwN l step mode = x at *
    go_enter Try.func47, Try.ntmps47
    go_wp2_with fail
    refine C1.out.mono ?_
    rintro e w1 ⟨rfl, b1⟩
    have HB1 := Lib.hid b1
    clear b1
    go_wp2_with fail
    refine (C3.out _ _ _ _).mono ?_
    rintro e w2 ⟨rfl, rfl⟩
    cases g1 : QM.within step 1 16777216
    · have HX := Lib.hid (KS.out g1)
      clear g1
      go_wp2_with fail
      go_ret2
      exact ⟨by rw [HX.out.1, HX.out.2] <;> rfl, HB1.out⟩
    go_wp2_with fail
    refine (C3.out _ _ _ _).mono ?_
    rintro e w2 ⟨rfl, rfl⟩
    cases g2 : QM.within mode 1 5
    · have HX := Lib.hid (KM.out g1 g2)
      clear g1 g2
      go_wp2_with fail
      go_ret2
      exact ⟨by rw [HX.out.1, HX.out.2] <;> rfl, HB1.out⟩
    by_cases h0 : l.length = 0
    · have HX := Lib.hid (KN.out g1 g2 h0)
      have h1 : (l.length : Int) = 0 := by omega
      clear g1 g2
      go_wp2_with fail
      go_ret2
      exact ⟨by rw [HX.out.1, HX.out.2] <;> rfl, HB1.out⟩
    · have HX := Lib.hid (KO.out g1 g2 (by omega))
      have h1 : ¬ (l.length : Int) = 0 := by omega
      obtain ⟨⟨v1, v2⟩, ⟨s1, s2⟩, _, he, ⟨k1, k2⟩, p1, p2⟩ := KB.out (QM.within_true.1 g1) (QM.within_true.1 g2).1 (QM.within_true.1 g2).2 (by omega)
      have HK : Hid (TP.vwK l step mode = CM.mdN (TP.val l) 1 (TP.vol l * step) mode) := Lib.hid rfl
      have C5 := Lib.hid (fun ww => C4.out (TP.val l) (TP.vol l * step) ww)
      rw [he, ← HK.out] at C5
      clear g1 g2 h0 KB KO KN KM KS HK C4 he
      generalize TP.vwK l step mode = k at *
      generalize TP.vol l = q at *
      generalize TP.val l = v at *
      go_wp2_with fail
      refine (C2.out _ (HI.out.below HB1.out)).mono ?_
      rintro e w2 ⟨rfl, b2⟩
      have HB2 := Lib.hid (HB1.out.trans (b2.mono HB1.out.size))
      clear b2
      go_wp2_with fail
      refine (C5.out _).mono ?_
      rintro e w3 ⟨rfl, b3⟩
      have HB3 := Lib.hid (HB2.out.trans (b3.mono HB2.out.size))
      clear b3
      go_wp2_with fail
      go_ret2
      exact ⟨by rw [HX.out.1, HX.out.2] <;> rfl, HB3.out⟩
  · have e := TP.vw_check (step := step) (mode := mode) h
    rw [e.1, e.2]
    generalize TP.allE l = x at *
    have h2 : (x != 0) = true := by simpa using h
    clear e hI hn hlen
    go_enter Try.func47, Try.ntmps47
    go_wp2_with fail
    refine C1.out.mono ?_
    rintro e w1 ⟨rfl, b1⟩
    have HB1 := Lib.hid b1
    clear b1
    go_wp2_with fail
    go_ret2
    exact ⟨rfl, HB1.out⟩
end Go.Proofs.Ytagmknahmkniaac

/- Contracts of layer 17: ticks compared, Same; the examples. -/
namespace Go.Proofs.Ytagmknahmkniaac
open Go.RowKit Go.Recs
set_option linter.unusedVariables false
set_option linter.unusedSimpArgs false
def teq (x y : TP.Tick) : Bool := (x.time == y.time) && ((x.qty == y.qty) && (x.price == y.price))
theorem teq_iff {x y : TP.Tick} : teq x y = true ↔ x = y := by
  constructor
  · intro h
    unfold teq at h
    simp only [Bool.and_eq_true, beq_iff_eq] at h
    cases x; cases y
    simp only at h
    rw [h.1, h.2.1, h.2.2]
  · rintro rfl
    simp [teq]
theorem tick_in (x y : TP.Tick) (w : World) : (Op.equalIn 10000 102 (tickA x) (tickA y)).run Try.prog w = .ok (teq x y) w := by
  have u3 := Try.underlying3
  have a3 := Try.isAgg3
  have z3 := Try.sizeOf3
  have hS : Try.prog.underlying 102 = some (.struct (Try.prog.fieldsOf 102)) := by kernel_rfl
  have hp : Try.prog.stoodInHeld 102 = false := by kernel_rfl
  rw [show (10000 : Nat) = 9999 + 1 from rfl, run_equalIn_agg w 9999 102 _ _ hS hp]
  simp only [Program.fieldsOf, Try.underlying102]
  unfold teq
  go_simp
  by_cases h1 : x.time = y.time <;> by_cases h2 : x.qty = y.qty <;> by_cases h3 : x.price = y.price <;> simp [h1, h2, h3]
theorem tick_guard : Try.prog.eqGuardType Try.prog.depth 102 = false := by kernel_rfl
/-- the page's ticks -/
def tapX : List TP.Tick := [⟨9, 2, 10⟩, ⟨10, 1, 13⟩]
def tapY : List TP.Tick := [⟨10, 1, 13⟩]
theorem tap_v1 : TP.vwN tapX 1 5 = 11 ∧ TP.vwE tapX 1 5 = 0 := by decide
theorem tap_v2 : TP.vwN tapX 5 1 = 10 ∧ TP.vwE tapX 5 1 = 0 := by decide
theorem tap_v3 : TP.vwN tapX 4 5 = 12 ∧ TP.vwE tapX 4 5 = 0 := by decide
theorem tap_r : TP.lowN tapX = 10 ∧ TP.highN tapX = 13 ∧ decide (0 < tapX.length) = true := by decide
theorem tap_w : TP.win tapX 10 20 = tapY := rfl
theorem small_tick {a b c : Int} (h : (0 ≤ a ∧ a ≤ 1000) ∧ (0 ≤ b ∧ b ≤ 1000) ∧ 0 ≤ c ∧ c ≤ 1000) : tickQ ⟨a, b, c⟩ := ⟨⟨by show _ ≤ a; omega, by show a ≤ _; omega⟩, ⟨by show _ ≤ b; omega, by show b ≤ _; omega⟩, ⟨by show _ ≤ c; omega, by show c ≤ _; omega⟩⟩
theorem tap_lit (W : World) : Ticks (W.alloc (.cells #[.int .i64 9, .int .i64 2, .int .i64 10, .int .i64 10, .int .i64 1, .int .i64 13] 102)) (some ⟨W.heap.size, 0, none⟩) tapX := by
  obtain ⟨A', cap, e, hr, _⟩ := OwnR.recs (OwnR.lit W W.heap.size 102 3 (tapX.map tickV) (by simp [tapX, tickV]) (Nat.le_refl _) (by simp [tapX, maxLen]))
  injection e with e
  subst e
  refine ⟨hr, ?_⟩
  intro x hx
  simp only [tapX, List.mem_cons, List.not_mem_nil, or_false] at hx
  rcases hx with rfl | rfl <;> exact small_tick (by decide)
end Go.Proofs.Ytagmknahmkniaac

/- Slices of values of one cell each, of whatever type: what a slice holds, and slices that the call itself makes. -/
namespace Go.Proofs.Ytagmknahmkniaac
open Go.RowKit

/-- a slice at A holds the values vs, in w -/
def Vals (w : World) (A : Option Addr) (vs : List Value) : Prop :=
  vs.length ≤ maxLen ∧ (vs = [] ∨ ∃ b off, A = some ⟨b, off, none⟩ ∧ b < w.heap.size ∧ ∀ i, i < vs.length → w.cell? ⟨b, off + i, none⟩ = vs[i]?)

section
variable {w w' : World} {A : Option Addr} {vs : List Value}
theorem Vals.get (h : Vals w A vs) {k : Nat} (hk : k < vs.length) : ∃ b off, A = some ⟨b, off, none⟩ ∧ b < w.heap.size ∧ w.cell? ⟨b, off + k, none⟩ = some vs[k] := by
  rcases h.2 with h0 | ⟨b, off, rfl, hb, hc⟩
  · subst h0; simp at hk
  · exact ⟨b, off, rfl, hb, by rw [hc k hk, List.getElem?_eq_getElem hk]⟩
theorem Vals.len (h : Vals w A vs) : vs.length ≤ 9223372036854775807 := h.1
theorem Vals.keep (h : Vals w A vs) (hz : w.heap.size ≤ w'.heap.size) (hk : ∀ b o, b < w.heap.size → w'.cell? ⟨b, o, none⟩ = w.cell? ⟨b, o, none⟩) : Vals w' A vs := by
  refine ⟨h.1, ?_⟩
  rcases h.2 with h | ⟨b, off, rfl, hb, hc⟩
  · exact .inl h
  · exact .inr ⟨b, off, rfl, by omega, fun i hi => by rw [hk _ _ hb]; exact hc i hi⟩
theorem Vals.below (h : Vals w A vs) (hb : Below w.heap.size w w') : Vals w' A vs := h.keep hb.size fun b o hlt => hb.cell (p := ⟨b, o, none⟩) hlt
theorem Vals.drewN (h : Vals w A vs) (n : Nat) : Vals (w.drewN n) A vs := h
theorem Vals.drew (h : Vals w A vs) : Vals w.drew A vs := h
theorem Vals.nil (w : World) (A : Option Addr) : Vals w A [] := ⟨by simp, .inl rfl⟩
theorem Vals.take_ (h : Vals w A vs) (n : Nat) : Vals w A (vs.take n) := by
  refine ⟨by rw [List.length_take]; have := h.1; omega, ?_⟩
  rcases h.2 with h | ⟨b, off, rfl, hb, hc⟩
  · exact .inl (by rw [h]; simp)
  · refine .inr ⟨b, off, rfl, hb, fun i hi => ?_⟩
    rw [List.length_take] at hi
    rw [hc i (by omega), List.getElem?_take_of_lt (by omega)]
theorem Vals.drop_ {b off : Nat} (h : Vals w (some ⟨b, off, none⟩) vs) (n : Nat) : Vals w (some ⟨b, off + n, none⟩) (vs.drop n) := by
  refine ⟨by rw [List.length_drop]; have := h.1; omega, ?_⟩
  rcases h.2 with h | ⟨b', off', e, hb, hc⟩
  · exact .inl (by rw [h]; simp)
  · injection e with e
    injection e with e1 e2
    subst e1 e2
    refine .inr ⟨_, _, rfl, hb, fun i hi => ?_⟩
    rw [List.length_drop] at hi
    rw [Nat.add_assoc, hc (n + i) (by omega), List.getElem?_drop]
theorem Vals.of_row {x : Addr} {len : Nat} {vs : List Value} (hm : vs.length ≤ maxLen) (hcell : ∀ i, i < vs.length → w.cell? (x.add i) = vs[i]?) : Vals w (some x) (vs.take len) := by
  refine Vals.take_ (⟨hm, ?_⟩ : Vals w (some x) vs) len
  rcases Nat.eq_zero_or_pos vs.length with h0 | h0
  · exact .inl (List.eq_nil_of_length_eq_zero h0)
  · obtain ⟨b, off, spot⟩ := x
    have hc := hcell 0 h0
    rw [List.getElem?_eq_getElem h0] at hc
    have hspot : spot = none := by simpa [Addr.add] using World.cell?_spot hc
    subst hspot
    refine .inr ⟨b, off, rfl, World.block_lt_of_cell? _ _ hc, fun i hi => ?_⟩
    have := hcell i hi
    have e : (⟨b, off, none⟩ : Addr).add i = ⟨b, off + i, none⟩ := by
      unfold Addr.add
      by_cases h0 : i = 0
      · subst h0; simp
      · simp [h0]
    rwa [e] at this
end

/-! bytes and texts -/
def byteV (c : UInt8) : Value := .int .u8 c.toNat
def Bytes (w : World) (A : Option Addr) (l : List UInt8) : Prop := Vals w A (l.map byteV)
def Strs (w : World) (A : Option Addr) (l : List ByteArray) : Prop := Vals w A (l.map Value.string) ∧ ∀ s ∈ l, s.size ≤ maxLen
section
variable {w w' : World} {A : Option Addr}
/-- byte k, under a name of its own -/
theorem Bytes.get {l : List UInt8} (h : Bytes w A l) {k : Nat} (hk : k < l.length) :
    ∃ b off, ∃ n : Int, A = some ⟨b, off, none⟩ ∧ b < w.heap.size ∧ w.cell? ⟨b, off + k, none⟩ = some (.int .u8 n) ∧ Hid ((l[k].toNat : Int) = n) ∧ 0 ≤ n ∧ n ≤ 255 := by
  obtain ⟨b, off, rfl, hb, hc⟩ := Vals.get h (k := k) (by rw [List.length_map]; exact hk)
  have := l[k].toNat_lt
  exact ⟨b, off, _, rfl, hb, by rw [hc, List.getElem_map]; rfl, rfl, by omega, by omega⟩
theorem Bytes.len {l : List UInt8} (h : Bytes w A l) : l.length ≤ 9223372036854775807 := by have := h.1; rw [List.length_map] at this; exact this
theorem Bytes.below {l : List UInt8} (h : Bytes w A l) (hb : Below w.heap.size w w') : Bytes w' A l := Vals.below h hb
theorem Bytes.drewN {l : List UInt8} (h : Bytes w A l) (n : Nat) : Bytes (w.drewN n) A l := h
theorem Bytes.nil (w : World) (A : Option Addr) : Bytes w A [] := Vals.nil w A
theorem Bytes.take_ {l : List UInt8} (h : Bytes w A l) (n : Nat) : Bytes w A (l.take n) := by unfold Bytes; rw [List.map_take]; exact Vals.take_ h n
theorem Bytes.drop_ {b off : Nat} {l : List UInt8} (h : Bytes w (some ⟨b, off, none⟩) l) (n : Nat) : Bytes w (some ⟨b, off + n, none⟩) (l.drop n) := by unfold Bytes; rw [List.map_drop]; exact Vals.drop_ h n
theorem Strs.get {l : List ByteArray} (h : Strs w A l) {k : Nat} (hk : k < l.length) :
    ∃ b off s, A = some ⟨b, off, none⟩ ∧ b < w.heap.size ∧ w.cell? ⟨b, off + k, none⟩ = some (.string s) ∧ Hid (l[k] = s) ∧ s.size ≤ 9223372036854775807 := by
  obtain ⟨b, off, rfl, hb, hc⟩ := Vals.get h.1 (k := k) (by rw [List.length_map]; exact hk)
  exact ⟨b, off, _, rfl, hb, by rw [hc, List.getElem_map], rfl, h.2 _ (List.getElem_mem hk)⟩
theorem Strs.len {l : List ByteArray} (h : Strs w A l) : l.length ≤ 9223372036854775807 := by have := h.1.1; rw [List.length_map] at this; exact this
theorem Strs.below {l : List ByteArray} (h : Strs w A l) (hb : Below w.heap.size w w') : Strs w' A l := ⟨h.1.below hb, h.2⟩
theorem Strs.drewN {l : List ByteArray} (h : Strs w A l) (n : Nat) : Strs (w.drewN n) A l := h
theorem Strs.nil (w : World) (A : Option Addr) : Strs w A [] := ⟨Vals.nil w A, by simp⟩
end

/-- the slice v, in memory from block B on, of elements of type t, holds the values vs -/
def OwnV (w : World) (B : Nat) (t : TypeId) (v : Value) (vs : List Value) : Prop := w.ownsRow B t 1 v vs.length vs
section
variable {w w' : World} {B : Nat} {t : TypeId} {v : Value} {vs : List Value}
theorem OwnV.nil (w : World) (B : Nat) (t : TypeId) : OwnV w B t (.slice none 0 0) [] := World.ownsRow_nil _ _ _ _
theorem OwnV.form (h : OwnV w B t v vs) : (v = .slice none 0 0 ∧ vs = []) ∨ ∃ g cap, v = .slice (some ⟨g, 0, none⟩) vs.length cap ∧ B ≤ g ∧ g < w.heap.size ∧ vs.length ≤ cap := by
  rcases h.2 with ⟨rfl, h0⟩ | ⟨g, cap, cur, rfl, hB, hh, hn, _⟩
  · exact .inl ⟨rfl, List.eq_nil_of_length_eq_zero h0⟩
  · refine .inr ⟨g, cap, rfl, hB, ?_, hn⟩
    rcases Nat.lt_or_ge g w.heap.size with hlt | hge
    · exact hlt
    · rw [Array.getElem?_eq_none hge] at hh; cases hh
theorem OwnV.len (h : OwnV w B t v vs) : vs.length ≤ maxLen := by
  rcases h.2 with ⟨_, h0⟩ | ⟨g, cap, cur, _, _, _, hn, hm, _⟩
  · rw [h0]; exact Nat.zero_le _
  · exact Nat.le_trans hn hm
theorem OwnV.vals (h : OwnV w B t v vs) : ∃ A cap, v = .slice A vs.length cap ∧ Vals w A vs := by
  have hl := h.len
  rcases h.2 with ⟨rfl, h0⟩ | ⟨g, cap, cur, rfl, hB, hh, hn, hm, hs, ht⟩
  · have := List.eq_nil_of_length_eq_zero h0
    subst this
    exact ⟨none, 0, rfl, Vals.nil _ _⟩
  · have hg : g < w.heap.size := by
      rcases Nat.lt_or_ge g w.heap.size with hlt | hge
      · exact hlt
      · rw [Array.getElem?_eq_none hge] at hh; cases hh
    refine ⟨_, cap, rfl, hl, .inr ⟨g, 0, rfl, hg, fun i hi => ?_⟩⟩
    rw [Nat.zero_add, World.ownsRow.cellAt h i (by omega), List.getElem?_eq_getElem hi]
theorem OwnV.kept (h : OwnV w B t v vs) (hb : ∀ g, B ≤ g → g < w.heap.size → w'.heap[g]? = w.heap[g]?) : OwnV w' B t v vs := by
  refine ⟨h.1, ?_⟩
  rcases h.2 with h0 | ⟨g, cap, cur, hv, hB, hh, r⟩
  · exact .inl h0
  · refine .inr ⟨g, cap, cur, hv, hB, ?_, r⟩
    rcases Nat.lt_or_ge g w.heap.size with hlt | hge
    · rw [hb g hB hlt]; exact hh
    · rw [Array.getElem?_eq_none hge] at hh; cases hh
theorem OwnV.below (h : OwnV w B t v vs) (hb : Below w.heap.size w w') : OwnV w' B t v vs := h.kept fun g _ hg => hb.block g hg
theorem OwnV.alloc (h : OwnV w B t v vs) (o : Obj) : OwnV (w.alloc o) B t v vs := World.ownsRow.alloc h o
theorem OwnV.drewN (h : OwnV w B t v vs) (n : Nat) : OwnV (w.drewN n) B t v vs := h
theorem OwnV.block (h : OwnV w B t v vs) : ∀ k, v.ownBlock = some k → B ≤ k := fun k hk => (World.ownsRow.lt h k hk).1
end

/-- 's = append(s, x)', the new element in a block of its own just made -/
theorem wpList_pushV {P : Program} {ops : Array Oper} {rest : List Oper} {o : Oper} {a : Act} {Q : Exit → Act → World → Prop} (w : World) (x : Value) (hx1 : x.oneCell' = true) (B : Nat) (vs : List Value) (s y : Operand) (ts t : TypeId) (bytes : Nat) (z : Value)
    (hu : P.underlying ts = some (.slice t)) (hinfo : (P.info? t).map (fun i => (i.zero, i.size, i.bytes)) = some (some z, 1, bytes)) (hz : z.cells.size = 1)
    (hgd : o.guard = none) (ho : o.op = .call { callee := .builtin .append, args := #[s, y], argTypes := #[ts, ts] })
    (v : Value) (hs : a.eval s = v) (hx : a.eval y = .slice (some ⟨w.heap.size, 0, none⟩) 1 1) (hown : OwnV w B t v vs) (hl : (vs.length + 1) * bytes ≤ 140737488355328) (hm : vs.length + 1 ≤ maxLen) (hB : B ≤ w.heap.size)
    (h : ∀ v' w', OwnV w' B t v' (vs ++ [x]) → Below B w w' → w.heap.size ≤ w'.heap.size → w.grownBy w' v.ownBlock → wpList P ops Q rest (a.put o.dst v') w') :
    wpList P ops Q (o :: rest) a (w.alloc (.cells #[x] t)) := by
  obtain ⟨i0, hi, hz0, hz1, hz2⟩ := info_parts hinfo
  refine wpList_append_own (w.alloc (.cells #[x] t)) hgd s y ts ho B t i0 z 1 bytes hu hi hz0 hz1 hz2 hz (by decide) v vs.length vs hs (OwnV.alloc hown _)
    ⟨w.heap.size, 0, none⟩ 1 1 [x] hx rfl ?_ ?_ hm hl (by simp; omega) ?_
  · intro j u hj
    match j, hj with
    | 0, hj => simp at hj; subst hj; simp [Addr.add]
  · intro u hu; simp at hu; subst hu; exact hx1
  · intro v' w' h1 h2 _
    have hg : w.grownBy w' v.ownBlock := (World.grownBy_alloc w _ v.ownBlock).trans h2
    refine h v' w' (by unfold OwnV; simpa using h1) ?_ hg.size hg
    exact (Below.refl B w).grown hg hB (OwnV.block hown)
end Go.Proofs.Ytagmknahmkniaac

/- Strings and their bytes. -/
namespace Go.Proofs.Ytagmknahmkniaac
open Go.RowKit

/-- a string's bytes -/
def L (s : ByteArray) : List UInt8 := s.data.toList
/-- the string of some bytes -/
def S (l : List UInt8) : ByteArray := ⟨l.toArray⟩
theorem L_S (l : List UInt8) : L (S l) = l := by simp [L, S]
theorem S_L (s : ByteArray) : S (L s) = s := by
  obtain ⟨d⟩ := s
  show ByteArray.mk d.toList.toArray = _
  rw [Array.toArray_toList]
theorem L_len (s : ByteArray) : (L s).length = s.size := Array.length_toList
theorem S_size (l : List UInt8) : (S l).size = l.length := List.size_toArray
theorem L_toList (s : ByteArray) : s.toList = L s := ByteArray.toList_eq s
theorem L_get (s : ByteArray) (k : Nat) (h : k < s.size) : (L s)[k]'(by rw [L_len]; exact h) = s[k] := by simp [L, ByteArray.getElem_eq_getElem_data]
theorem L_take_succ (s : ByteArray) (k : Nat) (h : k < s.size) : (L s).take (k + 1) = (L s).take k ++ [s[k]] := by
  rw [WM.take_snoc (L s) k (by rw [L_len]; exact h), L_get s k h]
theorem L_take_all (s : ByteArray) : (L s).take s.size = L s := List.take_of_length_le (by rw [L_len]; exact Nat.le_refl _)
theorem L_extract (s : ByteArray) (a b : Nat) : L (s.extract a b) = ((L s).take b).drop a := by
  simp [L, ByteArray.data_extract, List.drop_take]
theorem L_append (a b : ByteArray) : L (a ++ b) = L a ++ L b := by simp [L, ByteArray.data_append]
theorem L_inj {a b : ByteArray} (h : L a = L b) : a = b := by rw [← S_L a, ← S_L b, h]
theorem L_head (s : ByteArray) (h : 0 < s.size) : (L s).headD 0 = s[0] := by
  rw [← L_get s 0 h]
  have hl : 0 < (L s).length := by rw [L_len]; exact h
  rw [List.headD_eq_head?_getD, List.head?_eq_getElem?, List.getElem?_eq_getElem hl]
  rfl
theorem L_nil {s : ByteArray} (h : s.size = 0) : L s = [] := List.eq_nil_of_length_eq_zero (by rw [L_len]; exact h)
theorem isEmpty_false {s : ByteArray} (h : 0 < s.size) : s.toList.isEmpty = false := by
  rw [L_toList, List.isEmpty_eq_false_iff]
  intro e
  have := L_len s
  rw [e] at this; simp at this; omega
theorem isEmpty_true {s : ByteArray} (h : s.size = 0) : s.toList.isEmpty = true := by
  rw [L_toList, L_nil h]; rfl
theorem beq_t {a b : Int} (h : a = b) : (a == b) = true := by simpa using h
theorem beq_f {a b : Int} (h : ¬ a = b) : (a == b) = false := by simpa using h
end Go.Proofs.Ytagmknahmkniaac
