/- Put together: CentsC, CentsD, ProdC. -/
import Derived.Test.YtiohainnpjikpaaBun3
import Derived.Test.YtiohainnpjikpaaBun4
import Derived.Test.YtiohainnpjikpaaBun1
namespace Go.Proofs.Ytiohainnpjikpaa
open Go.RowKit
set_option maxHeartbeats 400000 in
theorem rounding_any (q r d : Int) (n : Bool) (w : World) :
    Calls Try.prog 50 #[.int .i64 q, .int .i64 r, .int .i64 d, .bool n] w fun e w' =>
      e = .returned (.func (.func 64) #[] #[.pointer (some ⟨w.heap.size + 1, 0, none⟩), .pointer (some ⟨w.heap.size + 1 + 1 + 1, 0, none⟩), .pointer (some ⟨w.heap.size + 1 + 1, 0, none⟩), .pointer (some ⟨w.heap.size, 0, none⟩)]) ∧
      w' = (((w.alloc (.cells #[.int .i64 q] 3)).alloc (.cells #[.int .i64 r] 3)).alloc (.cells #[.int .i64 d] 3)).alloc (.cells #[.bool n] 4) := by
  go_enter Try.func50, Try.ntmps50
  go_wp2
  go_ret
  exact ⟨rfl, rfl⟩

set_option maxHeartbeats 1000000 in
theorem grow_any (mode q r d : Int) (n : Bool) (p1 p2 p3 p4 : Addr) (w : World) (hm1 : 1 ≤ mode) (hm5 : mode ≤ 5)
    (h1 : w.cell? p1 = some (.int .i64 r)) (h2 : w.cell? p2 = some (.bool n)) (h3 : w.cell? p3 = some (.int .i64 d)) (h4 : w.cell? p4 = some (.int .i64 q))
    (hr0 : 0 ≤ r) (hr : r < d) (hd : d ≤ 1152921504606846976) (hq : 0 ≤ q) (hq1 : q ≤ 1152921504606846976) :
    Calls Try.prog 64 #[.int .i64 mode, .pointer (some p1), .pointer (some p2), .pointer (some p3), .pointer (some p4)] w fun e w' =>
      e = .returned (.bool (CM.grow q r d mode n)) ∧ w = w' := by
  by_cases hz : r = 0
  · subst hz
    have hg : CM.grow q 0 d mode n = false := by simp [CM.grow]
    rw [hg]; clear hg
    go_enter Try.func64, Try.ntmps64
    go_wp2
    go_ret
    exact ⟨rfl, rfl⟩
  · have hz' : (r == 0) = false := by simpa using hz
    have hm : mode = 1 ∨ mode = 2 ∨ mode = 3 ∨ mode = 4 ∨ mode = 5 := by omega
    rcases hm with rfl | rfl | rfl | rfl | rfl
    · have hg : CM.grow q r d 1 n = false := by simp [CM.grow]
      rw [hg]; clear hg hz
      go_enter Try.func64, Try.ntmps64
      go_wp2
      go_ret
      exact ⟨rfl, rfl⟩
    · have hg : CM.grow q r d 2 n = true := by simp [CM.grow, hz]
      rw [hg]; clear hg hz
      go_enter Try.func64, Try.ntmps64
      go_wp2
      go_ret
      exact ⟨rfl, rfl⟩
    · have hg : CM.grow q r d 3 n = n := by simp [CM.grow, hz]
      rw [hg]; clear hg hz
      go_enter Try.func64, Try.ntmps64
      go_wp2
      go_ret
      exact ⟨rfl, rfl⟩
    · have hg : CM.grow q r d 4 n = !n := by simp [CM.grow, hz]
      rw [hg]; clear hg hz
      go_enter Try.func64, Try.ntmps64
      go_wp2
      go_ret
      exact ⟨rfl, rfl⟩
    · by_cases g1 : d < 2 * r
      · have hg : CM.grow q r d 5 n = true := by simp [CM.grow, hz, g1]
        rw [hg]; clear hg hz
        go_enter Try.func64, Try.ntmps64
        go_wp2
        go_ret
        exact ⟨rfl, rfl⟩
      · by_cases g2 : 2 * r = d
        · subst g2
          cases g3 : decide (q % 2 = 1)
          · have hg : CM.grow q r (2 * r) 5 n = false := by simpa [CM.grow, hz] using g3
            rw [hg]; clear hg hz
            have g3' : (q % 2 == 1) = false := by simpa using g3
            clear g3
            go_enter Try.func64, Try.ntmps64
            go_wp2
            go_ret
            exact ⟨rfl, rfl⟩
          · have hg : CM.grow q r (2 * r) 5 n = true := by simpa [CM.grow, hz] using g3
            rw [hg]; clear hg hz
            have g3' : (q % 2 == 1) = true := by simpa using g3
            clear g3
            go_enter Try.func64, Try.ntmps64
            go_wp2
            go_ret
            exact ⟨rfl, rfl⟩
        · have hg : CM.grow q r d 5 n = false := by simp [CM.grow, hz, g1, g2]
          rw [hg]; clear hg hz
          have g2' : (2 * r == d) = false := by simpa using g2
          clear g2
          go_enter Try.func64, Try.ntmps64
          go_wp2
          go_ret
          exact ⟨rfl, rfl⟩

theorem cell_fresh (v : World) (q : Int) : (v.alloc (.cells #[.int .i64 q] 3)).cell? ⟨v.heap.size, 0, none⟩ = some (.int .i64 q) := by go_simp

theorem grow_new (mode q r d : Int) (n : Bool) (w : World) (k : Nat) (hm1 : 1 ≤ mode) (hm5 : mode ≤ 5)
    (hr0 : 0 ≤ r) (hr : r < d) (hd : d ≤ 1152921504606846976) (hq : 0 ≤ q) (hq1 : q ≤ 1152921504606846976) :
    Calls Try.prog 64 #[.int .i64 mode, .pointer (some ⟨w.heap.size + 1, 0, none⟩), .pointer (some ⟨w.heap.size + 1 + 1 + 1, 0, none⟩), .pointer (some ⟨w.heap.size + 1 + 1, 0, none⟩), .pointer (some ⟨w.heap.size, 0, none⟩)]
      (((((w.drewN k).alloc (.cells #[.int .i64 q] 3)).alloc (.cells #[.int .i64 r] 3)).alloc (.cells #[.int .i64 d] 3)).alloc (.cells #[.bool n] 4)) fun e w' =>
      e = .returned (.bool (CM.grow q r d mode n)) ∧ ((((w.drewN k).alloc (.cells #[.int .i64 q] 3)).alloc (.cells #[.int .i64 r] 3)).alloc (.cells #[.int .i64 d] 3)).alloc (.cells #[.bool n] 4) = w' :=
  grow_any mode q r d n _ _ _ _ _ hm1 hm5 (by go_simp) (by go_simp) (by go_simp) (by go_simp; exact cell_fresh (w.drewN k) q) hr0 hr hd hq hq1

theorem muldiv_arg (a b c mode : Int) (w : World) (h : CM.mdA a b c mode = false) :
    Calls Try.prog 33 #[.int .i64 a, .int .i64 b, .int .i64 c, .int .i64 mode] w fun e w' => e = .returned (.tuple #[.int .i64 0, .int .i64 2]) ∧ w = w' := by
  cases ha : CM.fits a
  · clear h
    go_enter Try.func33, Try.ntmps33
    go_wp2_with (go_at_call 47; refine (fits_any _ _).mono ?_; rintro e w' ⟨rfl, rfl⟩)
    go_ret2
    exact ⟨rfl, rfl⟩
  · cases hb : CM.fits b
    · clear h
      go_enter Try.func33, Try.ntmps33
      go_wp2_with (go_at_call 47; refine (fits_any _ _).mono ?_; rintro e w' ⟨rfl, rfl⟩)
      go_ret2
      exact ⟨rfl, rfl⟩
    · cases hc : CM.fits c
      · clear h
        go_enter Try.func33, Try.ntmps33
        go_wp2_with (go_at_call 47; refine (fits_any _ _).mono ?_; rintro e w' ⟨rfl, rfl⟩)
        go_ret2
        exact ⟨rfl, rfl⟩
      · simp [CM.mdA, ha, hb, hc] at h
        by_cases hm : mode < 1
        · clear h
          go_enter Try.func33, Try.ntmps33
          go_wp2_with (go_at_call 47; refine (fits_any _ _).mono ?_; rintro e w' ⟨rfl, rfl⟩)
          go_ret2
          exact ⟨rfl, rfl⟩
        · have hm5 : 5 < mode := by omega
          clear h
          go_enter Try.func33, Try.ntmps33
          go_wp2_with (go_at_call 47; refine (fits_any _ _).mono ?_; rintro e w' ⟨rfl, rfl⟩)
          go_ret2
          exact ⟨rfl, rfl⟩

theorem mdA_parts {a b c mode : Int} (h : CM.mdA a b c mode = true) : CM.fits a = true ∧ CM.fits b = true ∧ CM.fits c = true ∧ 1 ≤ mode ∧ mode ≤ 5 := by
  simp [CM.mdA] at h
  obtain ⟨⟨⟨⟨h1, h2⟩, h3⟩, h4⟩, h5⟩ := h
  exact ⟨h1, h2, h3, h4, h5⟩

theorem muldiv_zero (a b mode : Int) (w : World) (h : CM.mdA a b 0 mode = true) :
    Calls Try.prog 33 #[.int .i64 a, .int .i64 b, .int .i64 0, .int .i64 mode] w fun e w' => e = .returned (.tuple #[.int .i64 0, .int .i64 4]) ∧ w = w' := by
  obtain ⟨ha, hb, hc, h1, h5⟩ := mdA_parts h
  clear h
  go_enter Try.func33, Try.ntmps33
  go_wp2_with (go_at_call 47; refine (fits_any _ _).mono ?_; rintro e w' ⟨rfl, rfl⟩)
  go_ret2
  exact ⟨rfl, rfl⟩

set_option maxHeartbeats 400000 in
theorem muldiv_over (a b c mode : Int) (w : World) (h : CM.mdA a b c mode = true) (hc0 : (c == 0) = false)
    (hk : CM.dok (CM.size a).toNat (CM.size b).toNat (CM.size c).toNat = false) :
    Calls Try.prog 33 #[.int .i64 a, .int .i64 b, .int .i64 c, .int .i64 mode] w fun e w' => e = .returned (.tuple #[.int .i64 0, .int .i64 3]) ∧ ∃ n, w' = w.drewN n := by
  obtain ⟨ha, hb, hc, hm1, hm5⟩ := mdA_parts h
  clear h
  obtain ⟨a1, a2⟩ := CM.fits_true.1 ha
  obtain ⟨b1, b2⟩ := CM.fits_true.1 hb
  obtain ⟨c1, c2⟩ := CM.fits_true.1 hc
  have sa0 := CM.size_nonneg a
  have sa1 := CM.size_le a1 a2
  have sb0 := CM.size_nonneg b
  have sb1 := CM.size_le b1 b2
  have sc0 : 0 < CM.size c := CM.size_pos (by simpa using hc0)
  have sc1 := CM.size_le c1 c2
  go_enter Try.func33, Try.ntmps33
  go_wp2_with (first
    | (go_at_call 47; refine (fits_any _ _).mono ?_; rintro e w' ⟨rfl, rfl⟩)
    | (go_at_call 49; refine (size_any _ _ (by assumption) (by assumption)).mono ?_; rintro e w' ⟨rfl, rfl⟩)
    | (go_at_call 48; refine (divide_int _ _ _ _ (by assumption) (by assumption) (by assumption) (by assumption) (by assumption) (by assumption)).mono ?_; rintro e w' ⟨rfl, n, rfl⟩))
  go_ret2
  exact ⟨rfl, _, rfl⟩

set_option maxHeartbeats 1000000 in
theorem muldiv_in (a b c mode : Int) (w : World) (h : CM.mdA a b c mode = true) (hc0 : (c == 0) = false)
    (hk : CM.dok (CM.size a).toNat (CM.size b).toNat (CM.size c).toNat = true) :
    Calls Try.prog 33 #[.int .i64 a, .int .i64 b, .int .i64 c, .int .i64 mode] w fun e w' => e = .returned (.tuple #[.int .i64 (CM.mdN a b c mode), .int .i64 (CM.mdE a b c mode)]) ∧ Below w.heap.size w w' := by
  have hcn : c ≠ 0 := by simpa using hc0
  have HF := Lib.hid (fun g => @CM.md_fit a b c mode g h hcn)
  obtain ⟨ha, hb, hc, hm1, hm5⟩ := mdA_parts h
  clear h
  obtain ⟨a1, a2⟩ := CM.fits_true.1 ha
  obtain ⟨b1, b2⟩ := CM.fits_true.1 hb
  obtain ⟨c1, c2⟩ := CM.fits_true.1 hc
  have sa0 := CM.size_nonneg a
  have sa1 := CM.size_le a1 a2
  have sb0 := CM.size_nonneg b
  have sb1 := CM.size_le b1 b2
  have sc0 : 0 < CM.size c := CM.size_pos hcn
  have sc1 := CM.size_le c1 c2
  obtain ⟨e1, e2⟩ := CM.dq_eq hk
  have r1 := CM.mdR_lt a b hcn
  have r0 : (0 : Int) ≤ CM.mdR a b c := Int.natCast_nonneg _
  have q0 := CM.mdQ_nonneg a b c
  have q1 := CM.dok_iff.1 hk
  clear hcn
  have hneg : (!((!(decide (a < 0) == decide (b < 0))) == decide (c < 0))) = CM.neg a b c := rfl
  cases hg : CM.grow (CM.mdQ a b c) (CM.mdR a b c) (CM.size c) mode (CM.neg a b c)
  all_goals
    cases hn : CM.neg a b c
    all_goals
      rw [hn] at hg
      have HG : Hid (CM.mdG a b c mode = _) := Lib.hid (show CM.mdG a b c mode = CM.mdQ a b c + _ from by unfold CM.mdG; rw [hn, hg])
      simp only [if_true, if_false, Bool.false_eq_true] at HG
      have HN := Lib.hid hn
      rw [hn] at hneg
      clear hn
      go_enter Try.func33, Try.ntmps33
      go_wp2_with (first
        | (go_at_call 47; refine (fits_any _ _).mono ?_; rintro e w' ⟨rfl, rfl⟩)
        | (go_at_call 49; refine (size_any _ _ (by assumption) (by assumption)).mono ?_; rintro e w' ⟨rfl, rfl⟩)
        | (go_at_call 48; refine (divide_int _ _ _ _ (by assumption) (by assumption) (by assumption) (by assumption) (by assumption) (by assumption)).mono ?_; rintro e w' ⟨rfl, n, rfl⟩)
        | (go_at_call 50; refine (rounding_any _ _ _ _ _).mono ?_; rintro e w' ⟨rfl, rfl⟩)
        | (go_at_call 64; refine (grow_new _ _ _ _ _ _ _ (by assumption) (by assumption) (by assumption) (by assumption) (by assumption) (by assumption) (by assumption)).mono ?_; rintro e w' ⟨rfl, rfl⟩)
        | (go_at_call 51; refine (fitting_any _ _).mono ?_; rintro e w' ⟨rfl, rfl⟩))
      go_ret2
      refine ⟨?_, ?_⟩
      · obtain ⟨f1, f2⟩ := HF.out _ rfl
        rw [HN.out, HG.out] at f1 f2
        simp only [if_true, if_false, Bool.false_eq_true, Int.add_zero] at f1 f2
        rw [← f1, ← f2]; rfl
      · exact ((((below_drewN (Below.refl _ _) n).alloc (Nat.le_refl _) _).alloc (by simp) _).alloc (by simp <;> omega) _).alloc (by simp <;> omega) _

theorem muldiv_any (a b c mode : Int) (w : World) :
    Calls Try.prog 33 #[.int .i64 a, .int .i64 b, .int .i64 c, .int .i64 mode] w fun e w' => e = .returned (.tuple #[.int .i64 (CM.mdN a b c mode), .int .i64 (CM.mdE a b c mode)]) ∧ Below w.heap.size w w' := by
  cases h : CM.mdA a b c mode
  · have e1 : CM.mdN a b c mode = 0 := by simp [CM.mdN, h]
    have e2 : CM.mdE a b c mode = 2 := by simp [CM.mdE, h]
    rw [e1, e2]
    exact (muldiv_arg a b c mode w h).mono fun _ _ ⟨he, hw⟩ => ⟨he, by subst hw; exact Below.refl _ _⟩
  · by_cases hc : c = 0
    · subst hc
      have e1 : CM.mdN a b 0 mode = 0 := by simp [CM.mdN]
      have e2 : CM.mdE a b 0 mode = 4 := by simp [CM.mdE, h]
      rw [e1, e2]
      exact (muldiv_zero a b mode w h).mono fun _ _ ⟨he, hw⟩ => ⟨he, by subst hw; exact Below.refl _ _⟩
    · cases hk : CM.dok (CM.size a).toNat (CM.size b).toNat (CM.size c).toNat
      · obtain ⟨e1, e2⟩ := CM.md_over h hc (by
          have := (not_congr (@CM.dok_iff a b c)).1 (by rw [hk]; simp)
          omega)
        rw [e1, e2]
        exact (muldiv_over a b c mode w h (by simpa using hc) hk).mono fun _ _ ⟨he, n, hw⟩ => ⟨he, by subst hw; exact below_drewN (Below.refl _ _) n⟩
      · exact muldiv_in a b c mode w h (by simpa using hc) hk
end Go.Proofs.Ytiohainnpjikpaa

namespace Go.Proofs.Ytiohainnpjikpaa
open Go.RowKit

set_option maxHeartbeats 1000000 in
theorem raway_any (mode q r d : Int) (n : Bool) (w : World) (hm1 : 1 ≤ mode) (hm5 : mode ≤ 5)
    (hr0 : 0 < r) (hr : r < d) (hd : d ≤ 1152921504606846976) (hq : 0 ≤ q) :
    Calls Try.prog 55 #[.int .i64 q, .int .i64 r, .int .i64 d, .int .i64 mode, .bool n] w fun e w' =>
      e = .returned (.bool (CM.grow q r d mode n)) ∧ w = w' := by
  have hz : ¬ r = 0 := by omega
  have hm : mode = 1 ∨ mode = 2 ∨ mode = 3 ∨ mode = 4 ∨ mode = 5 := by omega
  rcases hm with rfl | rfl | rfl | rfl | rfl
  · have hg : CM.grow q r d 1 n = false := by simp [CM.grow]
    rw [hg]; clear hg hz
    go_enter Try.func55, Try.ntmps55
    go_wp2
    go_ret
    exact ⟨rfl, rfl⟩
  · have hg : CM.grow q r d 2 n = true := by simp [CM.grow, hz]
    rw [hg]; clear hg hz
    go_enter Try.func55, Try.ntmps55
    go_wp2
    go_ret
    exact ⟨rfl, rfl⟩
  · have hg : CM.grow q r d 3 n = n := by simp [CM.grow, hz]
    rw [hg]; clear hg hz
    go_enter Try.func55, Try.ntmps55
    go_wp2
    go_ret
    exact ⟨rfl, rfl⟩
  · have hg : CM.grow q r d 4 n = !n := by simp [CM.grow, hz]
    rw [hg]; clear hg hz
    go_enter Try.func55, Try.ntmps55
    go_wp2
    go_ret
    exact ⟨rfl, rfl⟩
  · by_cases g1 : d - r < r
    · have hg : CM.grow q r d 5 n = true := by simp [CM.grow, hz, show d < 2 * r by omega]
      rw [hg]; clear hg hz
      go_enter Try.func55, Try.ntmps55
      go_wp2
      go_ret
      exact ⟨rfl, rfl⟩
    · by_cases g2 : r = d - r
      · have g2' : (r == d - r) = true := by simpa using g2
        have e1 : 2 * r = d := by omega
        have e2 : ¬ d < 2 * r := by omega
        cases g3 : decide (q % 2 = 1)
        · have hg : CM.grow q r d 5 n = false := by simpa [CM.grow, hz, e1, e2] using g3
          rw [hg]; clear hg hz e1 e2 g2
          have g3' : (q % 2 == 1) = false := by simpa using g3
          clear g3
          go_enter Try.func55, Try.ntmps55
          go_wp2
          go_ret
          exact ⟨rfl, rfl⟩
        · have hg : CM.grow q r d 5 n = true := by simpa [CM.grow, hz, e1, e2] using g3
          rw [hg]; clear hg hz e1 e2 g2
          have g3' : (q % 2 == 1) = true := by simpa using g3
          clear g3
          go_enter Try.func55, Try.ntmps55
          go_wp2
          go_ret
          exact ⟨rfl, rfl⟩
      · have e1 : ¬ 2 * r = d := by omega
        have e2 : ¬ d < 2 * r := by omega
        have hg : CM.grow q r d 5 n = false := by simp [CM.grow, hz, e1, e2]
        rw [hg]; clear hg hz e1 e2
        have g2' : (r == d - r) = false := by simpa using g2
        clear g2
        go_enter Try.func55, Try.ntmps55
        go_wp2
        go_ret
        exact ⟨rfl, rfl⟩

theorem rmuldiv_arg (a b c mode : Int) (w : World) (h : CM.mdA a b c mode = false) :
    Calls Try.prog 35 #[.int .i64 a, .int .i64 b, .int .i64 c, .int .i64 mode] w fun e w' => e = .returned (.tuple #[.int .i64 0, .int .i64 2]) ∧ w = w' := by
  cases ha : CM.fits a
  · clear h
    go_enter Try.func35, Try.ntmps35
    go_wp2_with (go_at_call 52; refine (rfits_any _ _).mono ?_; rintro e w' ⟨rfl, rfl⟩)
    go_ret2
    exact ⟨rfl, rfl⟩
  · cases hb : CM.fits b
    · clear h
      go_enter Try.func35, Try.ntmps35
      go_wp2_with (go_at_call 52; refine (rfits_any _ _).mono ?_; rintro e w' ⟨rfl, rfl⟩)
      go_ret2
      exact ⟨rfl, rfl⟩
    · cases hc : CM.fits c
      · clear h
        go_enter Try.func35, Try.ntmps35
        go_wp2_with (go_at_call 52; refine (rfits_any _ _).mono ?_; rintro e w' ⟨rfl, rfl⟩)
        go_ret2
        exact ⟨rfl, rfl⟩
      · simp [CM.mdA, ha, hb, hc] at h
        by_cases hm : mode < 1
        · clear h
          go_enter Try.func35, Try.ntmps35
          go_wp2_with (go_at_call 52; refine (rfits_any _ _).mono ?_; rintro e w' ⟨rfl, rfl⟩)
          go_ret2
          exact ⟨rfl, rfl⟩
        · have hm5 : 5 < mode := by omega
          clear h
          go_enter Try.func35, Try.ntmps35
          go_wp2_with (go_at_call 52; refine (rfits_any _ _).mono ?_; rintro e w' ⟨rfl, rfl⟩)
          go_ret2
          exact ⟨rfl, rfl⟩

theorem rmuldiv_zero (a b mode : Int) (w : World) (h : CM.mdA a b 0 mode = true) :
    Calls Try.prog 35 #[.int .i64 a, .int .i64 b, .int .i64 0, .int .i64 mode] w fun e w' => e = .returned (.tuple #[.int .i64 0, .int .i64 4]) ∧ w = w' := by
  obtain ⟨ha, hb, hc, h1, h5⟩ := mdA_parts h
  clear h
  go_enter Try.func35, Try.ntmps35
  go_wp2_with (go_at_call 52; refine (rfits_any _ _).mono ?_; rintro e w' ⟨rfl, rfl⟩)
  go_ret2
  exact ⟨rfl, rfl⟩

set_option maxHeartbeats 2000000 in
theorem rmuldiv_in (a b c mode : Int) (w : World) (h : CM.mdA a b c mode = true) (hc0 : (c == 0) = false) :
    Calls Try.prog 35 #[.int .i64 a, .int .i64 b, .int .i64 c, .int .i64 mode] w fun e w' => e = .returned (.tuple #[.int .i64 (CM.mdN a b c mode), .int .i64 (CM.mdE a b c mode)]) ∧ w = w' := by
  have hcn : c ≠ 0 := by simpa using hc0
  obtain ⟨f1, f2⟩ := CM.md_ref h hcn
  obtain ⟨q0, q1, r0, r1⟩ := CM.ref_bounds a b hcn
  have F1 := Lib.hid f1; have F2 := Lib.hid f2
  obtain ⟨ha, hb, hc, hm1, hm5⟩ := mdA_parts h
  clear h f1 f2
  obtain ⟨a1, a2⟩ := CM.fits_true.1 ha
  obtain ⟨b1, b2⟩ := CM.fits_true.1 hb
  obtain ⟨c1, c2⟩ := CM.fits_true.1 hc
  have sa0 := CM.size_nonneg a
  have sa1 := CM.size_le a1 a2
  have sb0 := CM.size_nonneg b
  have sb1 := CM.size_le b1 b2
  have sc0 : 0 < CM.size c := CM.size_pos hcn
  have sc1 := CM.size_le c1 c2
  clear hcn
  have hneg : (!((!(decide (a < 0) == decide (b < 0))) == decide (c < 0))) = CM.neg a b c := rfl
  generalize hq : CM.rq (CM.size a).toNat (CM.size b).toNat (CM.size c).toNat = q at *
  generalize hr : CM.rr (CM.size a).toNat (CM.size b).toNat (CM.size c).toNat = r at *
  by_cases hr0 : 0 < r
  · cases hn : CM.neg a b c
    · rw [hn] at hneg F1 F2
      clear hn
      cases hg : CM.grow q r (CM.size c) mode false
      · rw [hg] at F1 F2
        simp only [if_false, Bool.false_eq_true, Int.add_zero] at F1 F2
        by_cases ho : 1152921504606846976 < q
        · have HE := Lib.hid (F1.out ho)
          clear F1 F2
          go_enter Try.func35, Try.ntmps35
          go_wp2_with (first
            | (go_at_call 52; refine (rfits_any _ _).mono ?_; rintro e w' ⟨rfl, rfl⟩)
            | (go_at_call 54; refine (rsize_any _ _ (by assumption) (by assumption)).mono ?_; rintro e w' ⟨rfl, rfl⟩)
            | (go_at_call 53; refine (rquotient_any _ _ _ _ (by assumption) (by assumption) (by assumption) (by assumption) (by assumption) (by assumption)).mono ?_; rintro e w' ⟨rfl, rfl⟩)
            | (go_at_call 55; refine (raway_any _ _ _ _ _ _ (by assumption) (by assumption) (by assumption) (by assumption) (by assumption) (by assumption)).mono ?_; rintro e w' ⟨rfl, rfl⟩))
          go_ret2
          exact ⟨by rw [HE.out.1, HE.out.2]; rfl, rfl⟩
        · have HE := Lib.hid (F2.out (by omega))
          clear F1 F2
          go_enter Try.func35, Try.ntmps35
          go_wp2_with (first
            | (go_at_call 52; refine (rfits_any _ _).mono ?_; rintro e w' ⟨rfl, rfl⟩)
            | (go_at_call 54; refine (rsize_any _ _ (by assumption) (by assumption)).mono ?_; rintro e w' ⟨rfl, rfl⟩)
            | (go_at_call 53; refine (rquotient_any _ _ _ _ (by assumption) (by assumption) (by assumption) (by assumption) (by assumption) (by assumption)).mono ?_; rintro e w' ⟨rfl, rfl⟩)
            | (go_at_call 55; refine (raway_any _ _ _ _ _ _ (by assumption) (by assumption) (by assumption) (by assumption) (by assumption) (by assumption)).mono ?_; rintro e w' ⟨rfl, rfl⟩))
          go_ret2
          exact ⟨by rw [HE.out.1, HE.out.2]; rfl, rfl⟩
      · rw [hg] at F1 F2
        simp only [if_true, if_false, Bool.false_eq_true] at F1 F2
        by_cases ho : 1152921504606846976 < q + 1
        · have HE := Lib.hid (F1.out ho)
          clear F1 F2
          go_enter Try.func35, Try.ntmps35
          go_wp2_with (first
            | (go_at_call 52; refine (rfits_any _ _).mono ?_; rintro e w' ⟨rfl, rfl⟩)
            | (go_at_call 54; refine (rsize_any _ _ (by assumption) (by assumption)).mono ?_; rintro e w' ⟨rfl, rfl⟩)
            | (go_at_call 53; refine (rquotient_any _ _ _ _ (by assumption) (by assumption) (by assumption) (by assumption) (by assumption) (by assumption)).mono ?_; rintro e w' ⟨rfl, rfl⟩)
            | (go_at_call 55; refine (raway_any _ _ _ _ _ _ (by assumption) (by assumption) (by assumption) (by assumption) (by assumption) (by assumption)).mono ?_; rintro e w' ⟨rfl, rfl⟩))
          go_ret2
          exact ⟨by rw [HE.out.1, HE.out.2]; rfl, rfl⟩
        · have HE := Lib.hid (F2.out (by omega))
          clear F1 F2
          go_enter Try.func35, Try.ntmps35
          go_wp2_with (first
            | (go_at_call 52; refine (rfits_any _ _).mono ?_; rintro e w' ⟨rfl, rfl⟩)
            | (go_at_call 54; refine (rsize_any _ _ (by assumption) (by assumption)).mono ?_; rintro e w' ⟨rfl, rfl⟩)
            | (go_at_call 53; refine (rquotient_any _ _ _ _ (by assumption) (by assumption) (by assumption) (by assumption) (by assumption) (by assumption)).mono ?_; rintro e w' ⟨rfl, rfl⟩)
            | (go_at_call 55; refine (raway_any _ _ _ _ _ _ (by assumption) (by assumption) (by assumption) (by assumption) (by assumption) (by assumption)).mono ?_; rintro e w' ⟨rfl, rfl⟩))
          go_ret2
          exact ⟨by rw [HE.out.1, HE.out.2]; rfl, rfl⟩
    · rw [hn] at hneg F1 F2
      clear hn
      cases hg : CM.grow q r (CM.size c) mode true
      · rw [hg] at F1 F2
        simp only [if_true, if_false, Bool.false_eq_true, Int.add_zero] at F1 F2
        by_cases ho : 1152921504606846976 < q
        · have HE := Lib.hid (F1.out ho)
          clear F1 F2
          go_enter Try.func35, Try.ntmps35
          go_wp2_with (first
            | (go_at_call 52; refine (rfits_any _ _).mono ?_; rintro e w' ⟨rfl, rfl⟩)
            | (go_at_call 54; refine (rsize_any _ _ (by assumption) (by assumption)).mono ?_; rintro e w' ⟨rfl, rfl⟩)
            | (go_at_call 53; refine (rquotient_any _ _ _ _ (by assumption) (by assumption) (by assumption) (by assumption) (by assumption) (by assumption)).mono ?_; rintro e w' ⟨rfl, rfl⟩)
            | (go_at_call 55; refine (raway_any _ _ _ _ _ _ (by assumption) (by assumption) (by assumption) (by assumption) (by assumption) (by assumption)).mono ?_; rintro e w' ⟨rfl, rfl⟩))
          go_ret2
          exact ⟨by rw [HE.out.1, HE.out.2]; rfl, rfl⟩
        · have HE := Lib.hid (F2.out (by omega))
          clear F1 F2
          go_enter Try.func35, Try.ntmps35
          go_wp2_with (first
            | (go_at_call 52; refine (rfits_any _ _).mono ?_; rintro e w' ⟨rfl, rfl⟩)
            | (go_at_call 54; refine (rsize_any _ _ (by assumption) (by assumption)).mono ?_; rintro e w' ⟨rfl, rfl⟩)
            | (go_at_call 53; refine (rquotient_any _ _ _ _ (by assumption) (by assumption) (by assumption) (by assumption) (by assumption) (by assumption)).mono ?_; rintro e w' ⟨rfl, rfl⟩)
            | (go_at_call 55; refine (raway_any _ _ _ _ _ _ (by assumption) (by assumption) (by assumption) (by assumption) (by assumption) (by assumption)).mono ?_; rintro e w' ⟨rfl, rfl⟩))
          go_ret2
          exact ⟨by rw [HE.out.1, HE.out.2]; rfl, rfl⟩
      · rw [hg] at F1 F2
        simp only [if_true] at F1 F2
        by_cases ho : 1152921504606846976 < q + 1
        · have HE := Lib.hid (F1.out ho)
          clear F1 F2
          go_enter Try.func35, Try.ntmps35
          go_wp2_with (first
            | (go_at_call 52; refine (rfits_any _ _).mono ?_; rintro e w' ⟨rfl, rfl⟩)
            | (go_at_call 54; refine (rsize_any _ _ (by assumption) (by assumption)).mono ?_; rintro e w' ⟨rfl, rfl⟩)
            | (go_at_call 53; refine (rquotient_any _ _ _ _ (by assumption) (by assumption) (by assumption) (by assumption) (by assumption) (by assumption)).mono ?_; rintro e w' ⟨rfl, rfl⟩)
            | (go_at_call 55; refine (raway_any _ _ _ _ _ _ (by assumption) (by assumption) (by assumption) (by assumption) (by assumption) (by assumption)).mono ?_; rintro e w' ⟨rfl, rfl⟩))
          go_ret2
          exact ⟨by rw [HE.out.1, HE.out.2]; rfl, rfl⟩
        · have HE := Lib.hid (F2.out (by omega))
          clear F1 F2
          go_enter Try.func35, Try.ntmps35
          go_wp2_with (first
            | (go_at_call 52; refine (rfits_any _ _).mono ?_; rintro e w' ⟨rfl, rfl⟩)
            | (go_at_call 54; refine (rsize_any _ _ (by assumption) (by assumption)).mono ?_; rintro e w' ⟨rfl, rfl⟩)
            | (go_at_call 53; refine (rquotient_any _ _ _ _ (by assumption) (by assumption) (by assumption) (by assumption) (by assumption) (by assumption)).mono ?_; rintro e w' ⟨rfl, rfl⟩)
            | (go_at_call 55; refine (raway_any _ _ _ _ _ _ (by assumption) (by assumption) (by assumption) (by assumption) (by assumption) (by assumption)).mono ?_; rintro e w' ⟨rfl, rfl⟩))
          go_ret2
          exact ⟨by rw [HE.out.1, HE.out.2]; rfl, rfl⟩
  · have hg : ∀ n, CM.grow q r (CM.size c) mode n = false := fun n => by simp [CM.grow, show r = 0 by omega]
    rw [hg] at F1 F2
    clear hg
    simp only [if_false, Bool.false_eq_true, Int.add_zero] at F1 F2
    cases hn : CM.neg a b c
    · rw [hn] at hneg F2
      clear hn
      simp only [if_false, Bool.false_eq_true] at F2
      by_cases ho : 1152921504606846976 < q
      · have HE := Lib.hid (F1.out ho)
        clear F1 F2
        go_enter Try.func35, Try.ntmps35
        go_wp2_with (first
          | (go_at_call 52; refine (rfits_any _ _).mono ?_; rintro e w' ⟨rfl, rfl⟩)
          | (go_at_call 54; refine (rsize_any _ _ (by assumption) (by assumption)).mono ?_; rintro e w' ⟨rfl, rfl⟩)
          | (go_at_call 53; refine (rquotient_any _ _ _ _ (by assumption) (by assumption) (by assumption) (by assumption) (by assumption) (by assumption)).mono ?_; rintro e w' ⟨rfl, rfl⟩)
          | (go_at_call 55; refine (raway_any _ _ _ _ _ _ (by assumption) (by assumption) (by assumption) (by assumption) (by assumption) (by assumption)).mono ?_; rintro e w' ⟨rfl, rfl⟩))
        go_ret2
        exact ⟨by rw [HE.out.1, HE.out.2]; rfl, rfl⟩
      · have HE := Lib.hid (F2.out (by omega))
        clear F1 F2
        go_enter Try.func35, Try.ntmps35
        go_wp2_with (first
          | (go_at_call 52; refine (rfits_any _ _).mono ?_; rintro e w' ⟨rfl, rfl⟩)
          | (go_at_call 54; refine (rsize_any _ _ (by assumption) (by assumption)).mono ?_; rintro e w' ⟨rfl, rfl⟩)
          | (go_at_call 53; refine (rquotient_any _ _ _ _ (by assumption) (by assumption) (by assumption) (by assumption) (by assumption) (by assumption)).mono ?_; rintro e w' ⟨rfl, rfl⟩)
          | (go_at_call 55; refine (raway_any _ _ _ _ _ _ (by assumption) (by assumption) (by assumption) (by assumption) (by assumption) (by assumption)).mono ?_; rintro e w' ⟨rfl, rfl⟩))
        go_ret2
        exact ⟨by rw [HE.out.1, HE.out.2]; rfl, rfl⟩
    · rw [hn] at hneg F2
      clear hn
      simp only [if_true] at F2
      by_cases ho : 1152921504606846976 < q
      · have HE := Lib.hid (F1.out ho)
        clear F1 F2
        go_enter Try.func35, Try.ntmps35
        go_wp2_with (first
          | (go_at_call 52; refine (rfits_any _ _).mono ?_; rintro e w' ⟨rfl, rfl⟩)
          | (go_at_call 54; refine (rsize_any _ _ (by assumption) (by assumption)).mono ?_; rintro e w' ⟨rfl, rfl⟩)
          | (go_at_call 53; refine (rquotient_any _ _ _ _ (by assumption) (by assumption) (by assumption) (by assumption) (by assumption) (by assumption)).mono ?_; rintro e w' ⟨rfl, rfl⟩)
          | (go_at_call 55; refine (raway_any _ _ _ _ _ _ (by assumption) (by assumption) (by assumption) (by assumption) (by assumption) (by assumption)).mono ?_; rintro e w' ⟨rfl, rfl⟩))
        go_ret2
        exact ⟨by rw [HE.out.1, HE.out.2]; rfl, rfl⟩
      · have HE := Lib.hid (F2.out (by omega))
        clear F1 F2
        go_enter Try.func35, Try.ntmps35
        go_wp2_with (first
          | (go_at_call 52; refine (rfits_any _ _).mono ?_; rintro e w' ⟨rfl, rfl⟩)
          | (go_at_call 54; refine (rsize_any _ _ (by assumption) (by assumption)).mono ?_; rintro e w' ⟨rfl, rfl⟩)
          | (go_at_call 53; refine (rquotient_any _ _ _ _ (by assumption) (by assumption) (by assumption) (by assumption) (by assumption) (by assumption)).mono ?_; rintro e w' ⟨rfl, rfl⟩)
          | (go_at_call 55; refine (raway_any _ _ _ _ _ _ (by assumption) (by assumption) (by assumption) (by assumption) (by assumption) (by assumption)).mono ?_; rintro e w' ⟨rfl, rfl⟩))
        go_ret2
        exact ⟨by rw [HE.out.1, HE.out.2]; rfl, rfl⟩

theorem rmuldiv_any (a b c mode : Int) (w : World) :
    Calls Try.prog 35 #[.int .i64 a, .int .i64 b, .int .i64 c, .int .i64 mode] w fun e w' => e = .returned (.tuple #[.int .i64 (CM.mdN a b c mode), .int .i64 (CM.mdE a b c mode)]) ∧ w = w' := by
  cases h : CM.mdA a b c mode
  · have e1 : CM.mdN a b c mode = 0 := by simp [CM.mdN, h]
    have e2 : CM.mdE a b c mode = 2 := by simp [CM.mdE, h]
    rw [e1, e2]
    exact rmuldiv_arg a b c mode w h
  · by_cases hc : c = 0
    · subst hc
      have e1 : CM.mdN a b 0 mode = 0 := by simp [CM.mdN]
      have e2 : CM.mdE a b 0 mode = 4 := by simp [CM.mdE, h]
      rw [e1, e2]
      exact rmuldiv_zero a b mode w h
    · exact rmuldiv_in a b c mode w h (by simpa using hc)
end Go.Proofs.Ytiohainnpjikpaa

/- Contracts of layer 9: Price, Round, Value, the program's and the reference's. -/
namespace Go.Proofs.Ytiohainnpjikpaa
open Go.RowKit Go.Recs
set_option linter.unusedVariables false

/-- block g is one product -/
def PBox (w : World) (g : Nat) (p : QM.Prod) : Prop := w.heap[g]? = some (.cells #[.string p.name, .int .i64 p.cur, .int .i64 p.mult, .int .i64 p.tick, .int .i64 p.low, .int .i64 p.high, .bool p.phys] 24 (0, 0))
theorem PBox.new (w : World) (p : QM.Prod) : PBox (w.alloc (.cells #[.string p.name, .int .i64 p.cur, .int .i64 p.mult, .int .i64 p.tick, .int .i64 p.low, .int .i64 p.high, .bool p.phys] 24)) w.heap.size p := heap_alloc_new w _
theorem PBox.below {w w' : World} {g B : Nat} {p : QM.Prod} (h : PBox w g p) (hb : Below B w w') (hg : g < B) : PBox w' g p := (hb.block g hg).trans h
theorem PBox.lt {w : World} {g : Nat} {p : QM.Prod} (h : PBox w g p) : g < w.heap.size := lt_of_block h
theorem PBox.cells {w : World} {g : Nat} {p : QM.Prod} (h : PBox w g p) :
    w.cell? ⟨g, 0, none⟩ = some (.string p.name) ∧ w.cell? ⟨g, 1, none⟩ = some (.int .i64 p.cur) ∧ w.cell? ⟨g, 2, none⟩ = some (.int .i64 p.mult) ∧ w.cell? ⟨g, 3, none⟩ = some (.int .i64 p.tick) ∧
    w.cell? ⟨g, 4, none⟩ = some (.int .i64 p.low) ∧ w.cell? ⟨g, 5, none⟩ = some (.int .i64 p.high) ∧ w.cell? ⟨g, 6, none⟩ = some (.bool p.phys) := by
  unfold PBox at h
  simp [World.cell?, h]
theorem new_lt (w : World) (o : Obj) : w.heap.size < (w.alloc o).heap.size := by simp

set_option maxHeartbeats 2000000 in
theorem qprice_any (p : QM.Prod) (x : Int) (hq : prodQ p) (w : World) :
    Calls Try.prog 19 #[prodA p, .int .i64 x] w fun e w' => e = .returned (.int .i64 (QM.priceE p x)) ∧ Below w.heap.size w w' := by
  have C0 := Lib.hid (fun ww => qcheck_any p hq ww)
  have HB := Lib.hid ((Below.refl w.heap.size w).alloc (Nat.le_refl _) (.cells #[.string p.name, .int .i64 p.cur, .int .i64 p.mult, .int .i64 p.tick, .int .i64 p.low, .int .i64 p.high, .bool p.phys] 24))
  have HP := Lib.hid (PBox.new w p)
  have HL := Lib.hid (new_lt w (.cells #[.string p.name, .int .i64 p.cur, .int .i64 p.mult, .int .i64 p.tick, .int .i64 p.low, .int .i64 p.high, .bool p.phys] 24))
  by_cases hc : QM.checkE p = 0
  · have ht := QM.tick_pos hc
    have C1 := Lib.hid (fun ww => qwithin_any x p.low p.high ww)
    have C2 := Lib.hid (fun ww => qmul_any x p.tick ht ww)
    have K1 := Lib.hid (@QM.pk_out p x hc); have K2 := Lib.hid (@QM.pk_tick p x hc); have K3 := Lib.hid (@QM.pk_ok p x hc)
    rw [hc] at C0
    generalize QM.priceE p x = y at *
    generalize QM.within x p.low p.high = b1 at *
    generalize (x.tmod p.tick == 0) = b2 at *
    clear hc ht hq
    go_enter Try.func19, Try.ntmps19
    go_wp2_with fail
    refine (C0.out _).mono ?_
    rintro e w1 ⟨rfl, b⟩
    have HB1 := Lib.hid (HB.out.trans (b.mono HB.out.size))
    obtain ⟨c0, c1, c2, c3, c4, c5, c6⟩ := (HP.out.below b HL.out).cells
    clear b HB HP HL
    go_wp2_with fail
    refine (C1.out _).mono ?_
    rintro e w2 ⟨rfl, rfl⟩
    cases b1
    · have HX := Lib.hid (K1.out (by trivial))
      go_wp2_with fail
      go_ret
      exact ⟨by rw [HX.out]; rfl, HB1.out⟩
    go_wp2_with fail
    refine (C2.out _).mono ?_
    rintro e w2 ⟨rfl, rfl⟩
    cases b2
    · have HX := Lib.hid (K2.out (by trivial) (by trivial))
      go_wp2_with fail
      go_ret
      exact ⟨by rw [HX.out]; rfl, HB1.out⟩
    have HX := Lib.hid (K3.out (by trivial) (by trivial))
    go_wp2_with fail
    go_ret
    exact ⟨by rw [HX.out]; rfl, HB1.out⟩
  · rw [QM.pk_bad hc]
    have hd : (QM.checkE p != 0) = true := by simpa using hc
    generalize QM.checkE p = y at *
    clear hc hq HP HL
    go_enter Try.func19, Try.ntmps19
    go_wp2_with fail
    refine (C0.out _).mono ?_
    rintro e w1 ⟨rfl, b⟩
    have HB1 := Lib.hid (HB.out.trans (b.mono HB.out.size))
    clear b
    go_wp2_with fail
    go_ret
    exact ⟨rfl, HB1.out⟩

set_option maxHeartbeats 2000000 in
theorem rqprice_any (p : QM.Prod) (x : Int) (hq : prodQ p) (w : World) :
    Calls Try.prog 20 #[prodA p, .int .i64 x] w fun e w' => e = .returned (.int .i64 (QM.priceE p x)) ∧ Below w.heap.size w w' := by
  have C0 := Lib.hid (fun ww => rqcheck_any p hq ww)
  have HB := Lib.hid ((Below.refl w.heap.size w).alloc (Nat.le_refl _) (.cells #[.string p.name, .int .i64 p.cur, .int .i64 p.mult, .int .i64 p.tick, .int .i64 p.low, .int .i64 p.high, .bool p.phys] 24))
  have HP := Lib.hid (PBox.new w p)
  have HL := Lib.hid (new_lt w (.cells #[.string p.name, .int .i64 p.cur, .int .i64 p.mult, .int .i64 p.tick, .int .i64 p.low, .int .i64 p.high, .bool p.phys] 24))
  by_cases hc : QM.checkE p = 0
  · have ht : ¬ p.tick = 0 := QM.tick_pos hc
    have C1 := Lib.hid (fun ww => rqwithin_any x p.low p.high ww)
    have K1 := Lib.hid (@QM.pk_out p x hc); have K2 := Lib.hid (@QM.pk_tick p x hc); have K3 := Lib.hid (@QM.pk_ok p x hc)
    rw [hc] at C0
    generalize QM.priceE p x = y at *
    generalize QM.within x p.low p.high = b1 at *
    clear hc hq
    go_enter Try.func20, Try.ntmps20
    go_wp2_with fail
    refine (C0.out _).mono ?_
    rintro e w1 ⟨rfl, b⟩
    have HB1 := Lib.hid (HB.out.trans (b.mono HB.out.size))
    obtain ⟨c0, c1, c2, c3, c4, c5, c6⟩ := (HP.out.below b HL.out).cells
    clear b HB HP HL
    go_wp2_with fail
    refine (C1.out _).mono ?_
    rintro e w2 ⟨rfl, rfl⟩
    cases b1
    · have HX := Lib.hid (K1.out (by trivial))
      go_wp2_with fail
      go_ret
      exact ⟨by rw [HX.out]; rfl, HB1.out⟩
    cases h2 : (x.tmod p.tick == 0)
    · have HX := Lib.hid (K2.out (by trivial) h2)
      have h2b : (x.tmod p.tick != 0) = true := by rw [bne, h2]; rfl
      have h2c : ¬ x.tmod p.tick = 0 := by simpa using h2
      go_wp2_with fail
      go_ret
      exact ⟨by rw [HX.out]; rfl, HB1.out⟩
    have HX := Lib.hid (K3.out (by trivial) h2)
    have h2b : (x.tmod p.tick != 0) = false := by rw [bne, h2]; rfl
    have h2c : x.tmod p.tick = 0 := by simpa using h2
    go_wp2_with fail
    go_ret
    exact ⟨by rw [HX.out]; rfl, HB1.out⟩
  · rw [QM.pk_bad hc]
    have hd : (QM.checkE p != 0) = true := by simpa using hc
    generalize QM.checkE p = y at *
    clear hc hq HP HL
    go_enter Try.func20, Try.ntmps20
    go_wp2_with fail
    refine (C0.out _).mono ?_
    rintro e w1 ⟨rfl, b⟩
    have HB1 := Lib.hid (HB.out.trans (b.mono HB.out.size))
    clear b
    go_wp2_with fail
    go_ret
    exact ⟨rfl, HB1.out⟩

set_option maxHeartbeats 2000000 in
theorem qround_any (p : QM.Prod) (x mode : Int) (hq : prodQ p) (w : World) :
    Calls Try.prog 15 #[prodA p, .int .i64 x, .int .i64 mode] w fun e w' => e = .returned (.tuple #[.int .i64 (QM.roundN p x mode), .int .i64 (QM.roundE p x mode)]) ∧ Below w.heap.size w w' := by
  have C0 := Lib.hid (fun ww => qcheck_any p hq ww)
  have HB := Lib.hid ((Below.refl w.heap.size w).alloc (Nat.le_refl _) (.cells #[.string p.name, .int .i64 p.cur, .int .i64 p.mult, .int .i64 p.tick, .int .i64 p.low, .int .i64 p.high, .bool p.phys] 24))
  have HP := Lib.hid (PBox.new w p)
  have HL := Lib.hid (new_lt w (.cells #[.string p.name, .int .i64 p.cur, .int .i64 p.mult, .int .i64 p.tick, .int .i64 p.low, .int .i64 p.high, .bool p.phys] 24))
  by_cases hc : QM.checkE p = 0
  · have C1 := Lib.hid (fun ww => qwithin_any x (-16777216) 16777216 ww)
    have C2 := Lib.hid (fun ww => muldiv_any x 1 p.tick mode ww)
    have C3 := Lib.hid (fun ww => clamp_any (CM.mdN x 1 p.tick mode * p.tick) p.low p.high ww)
    have K1 := Lib.hid (@QM.rd_out p x mode hc)
    have K2 := Lib.hid (fun h2 h3 => (⟨@QM.rd_mode p x mode hc h2 h3, QM.md_bad h3⟩ : (_ ∧ _) ∧ (CM.mdE x 1 p.tick mode = 2 ∧ CM.mdN x 1 p.tick mode = 0)))
    have K3 := Lib.hid (@QM.rd_ok p x mode hc)
    rw [hc] at C0
    generalize QM.roundE p x mode = y at *
    generalize QM.roundN p x mode = z at *
    generalize QM.within x (-16777216) 16777216 = b1 at *
    generalize QM.within mode 1 5 = b2 at *
    generalize CM.mdE x 1 p.tick mode = me at *
    generalize CM.mdN x 1 p.tick mode = mn at *
    clear hc hq
    go_enter Try.func15, Try.ntmps15
    go_wp2_with fail
    refine (C0.out _).mono ?_
    rintro e w1 ⟨rfl, b⟩
    have HB1 := Lib.hid (HB.out.trans (b.mono HB.out.size))
    have HP1 := Lib.hid (HP.out.below b HL.out)
    obtain ⟨c0, c1, c2, c3, c4, c5, c6⟩ := (HP.out.below b HL.out).cells
    clear b HB HP HL
    go_wp2_with fail
    refine (C1.out _).mono ?_
    rintro e w2 ⟨rfl, rfl⟩
    cases b1
    · have HX := Lib.hid (K1.out (by trivial))
      go_wp2_with fail
      go_ret2
      exact ⟨by rw [HX.out.1, HX.out.2]; rfl, HB1.out⟩
    go_wp2_with fail
    refine (C2.out _).mono ?_
    rintro e w2 ⟨rfl, b⟩
    have HB2 := Lib.hid (HB1.out.trans (b.mono HB1.out.size))
    have HP2 := Lib.hid (HP1.out.below b HP1.out.lt)
    clear c0 c1 c2 c3 c4 c5 c6
    obtain ⟨c0, c1, c2, c3, c4, c5, c6⟩ := (HP1.out.below b HP1.out.lt).cells
    clear b HB1 HP1
    cases b2
    · have HX := Lib.hid (K2.out (by trivial) (by trivial))
      obtain ⟨rfl, rfl⟩ := HX.out.2
      go_wp2_with fail
      go_ret2
      exact ⟨by rw [HX.out.1.1, HX.out.1.2]; rfl, HB2.out⟩
    obtain ⟨HX, rfl, hb1, hb2⟩ := K3.out (by trivial) (by trivial)
    have HX := Lib.hid HX
    have hw : wrap64 (mn * p.tick) = mn * p.tick := IntWalk.wrap64_in _ (by omega)
    clear hb1 hb2
    go_wp2_with fail
    refine (C3.out _).mono ?_
    rintro e w3 ⟨rfl, rfl⟩
    go_wp2_with fail
    go_ret2
    exact ⟨by rw [HX.out.1, HX.out.2]; rfl, HB2.out⟩
  · obtain ⟨e1, e2⟩ := @QM.rd_bad p x mode hc
    rw [e1, e2]; clear e1 e2
    have hd : (QM.checkE p != 0) = true := by simpa using hc
    generalize QM.checkE p = y at *
    clear hc hq HP HL
    go_enter Try.func15, Try.ntmps15
    go_wp2_with fail
    refine (C0.out _).mono ?_
    rintro e w1 ⟨rfl, b⟩
    have HB1 := Lib.hid (HB.out.trans (b.mono HB.out.size))
    clear b
    go_wp2_with fail
    go_ret2
    exact ⟨rfl, HB1.out⟩

set_option maxHeartbeats 2000000 in
theorem rqround_any (p : QM.Prod) (x mode : Int) (hq : prodQ p) (w : World) :
    Calls Try.prog 16 #[prodA p, .int .i64 x, .int .i64 mode] w fun e w' => e = .returned (.tuple #[.int .i64 (QM.roundN p x mode), .int .i64 (QM.roundE p x mode)]) ∧ Below w.heap.size w w' := by
  have C0 := Lib.hid (fun ww => rqcheck_any p hq ww)
  have HB := Lib.hid ((Below.refl w.heap.size w).alloc (Nat.le_refl _) (.cells #[.string p.name, .int .i64 p.cur, .int .i64 p.mult, .int .i64 p.tick, .int .i64 p.low, .int .i64 p.high, .bool p.phys] 24))
  have HP := Lib.hid (PBox.new w p)
  have HL := Lib.hid (new_lt w (.cells #[.string p.name, .int .i64 p.cur, .int .i64 p.mult, .int .i64 p.tick, .int .i64 p.low, .int .i64 p.high, .bool p.phys] 24))
  by_cases hc : QM.checkE p = 0
  · have C1 := Lib.hid (fun ww => rqwithin_any x (-16777216) 16777216 ww)
    have C1b := Lib.hid (fun ww => rqwithin_any mode 1 5 ww)
    have C2 := Lib.hid (fun ww => rmuldiv_any x 1 p.tick mode ww)
    have C3 := Lib.hid (fun ww => rclamp_any (CM.mdN x 1 p.tick mode * p.tick) p.low p.high ww)
    have K1 := Lib.hid (@QM.rd_out p x mode hc)
    have K2 := Lib.hid (@QM.rd_mode p x mode hc)
    have K3 := Lib.hid (@QM.rd_ok p x mode hc)
    rw [hc] at C0
    generalize QM.roundE p x mode = y at *
    generalize QM.roundN p x mode = z at *
    generalize QM.within x (-16777216) 16777216 = b1 at *
    generalize QM.within mode 1 5 = b2 at *
    generalize CM.mdE x 1 p.tick mode = me at *
    generalize CM.mdN x 1 p.tick mode = mn at *
    clear hc hq
    go_enter Try.func16, Try.ntmps16
    go_wp2_with fail
    refine (C0.out _).mono ?_
    rintro e w1 ⟨rfl, b⟩
    have HB1 := Lib.hid (HB.out.trans (b.mono HB.out.size))
    obtain ⟨c0, c1, c2, c3, c4, c5, c6⟩ := (HP.out.below b HL.out).cells
    clear b HB HP HL
    go_wp2_with fail
    refine (C1.out _).mono ?_
    rintro e w2 ⟨rfl, rfl⟩
    cases b1
    · have HX := Lib.hid (K1.out (by trivial))
      go_wp2_with fail
      go_ret2
      exact ⟨by rw [HX.out.1, HX.out.2]; rfl, HB1.out⟩
    go_wp2_with fail
    refine (C1b.out _).mono ?_
    rintro e w2 ⟨rfl, rfl⟩
    cases b2
    · have HX := Lib.hid (K2.out (by trivial) (by trivial))
      go_wp2_with fail
      go_ret2
      exact ⟨by rw [HX.out.1, HX.out.2]; rfl, HB1.out⟩
    obtain ⟨HX, rfl, hb1, hb2⟩ := K3.out (by trivial) (by trivial)
    have HX := Lib.hid HX
    have hw : wrap64 (mn * p.tick) = mn * p.tick := IntWalk.wrap64_in _ (by omega)
    clear hb1 hb2
    go_wp2_with fail
    refine (C2.out _).mono ?_
    rintro e w2 ⟨rfl, rfl⟩
    go_wp2_with fail
    refine (C3.out _).mono ?_
    rintro e w3 ⟨rfl, rfl⟩
    go_wp2_with fail
    go_ret2
    exact ⟨by rw [HX.out.1, HX.out.2]; rfl, HB1.out⟩
  · obtain ⟨e1, e2⟩ := @QM.rd_bad p x mode hc
    rw [e1, e2]; clear e1 e2
    have hd : (QM.checkE p != 0) = true := by simpa using hc
    generalize QM.checkE p = y at *
    clear hc hq HP HL
    go_enter Try.func16, Try.ntmps16
    go_wp2_with fail
    refine (C0.out _).mono ?_
    rintro e w1 ⟨rfl, b⟩
    have HB1 := Lib.hid (HB.out.trans (b.mono HB.out.size))
    clear b
    go_wp2_with fail
    go_ret2
    exact ⟨rfl, HB1.out⟩
set_option maxHeartbeats 2000000 in
theorem qvalue_any (p : QM.Prod) (x q : Int) (hq : prodQ p) (w : World) :
    Calls Try.prog 17 #[prodA p, .int .i64 x, .int .i64 q] w fun e w' => e = .returned (.tuple #[.int .i64 (QM.valueN p x q), .int .i64 (QM.valueE p x q)]) ∧ Below w.heap.size w w' := by
  have C0 := Lib.hid (fun ww => qcheck_any p hq ww)
  have HB := Lib.hid ((Below.refl w.heap.size w).alloc (Nat.le_refl _) (.cells #[.string p.name, .int .i64 p.cur, .int .i64 p.mult, .int .i64 p.tick, .int .i64 p.low, .int .i64 p.high, .bool p.phys] 24))
  have HP := Lib.hid (PBox.new w p)
  have HL := Lib.hid (new_lt w (.cells #[.string p.name, .int .i64 p.cur, .int .i64 p.mult, .int .i64 p.tick, .int .i64 p.low, .int .i64 p.high, .bool p.phys] 24))
  by_cases hc : QM.checkE p = 0
  · have C1 := Lib.hid (fun ww => qwithin_any x (-33554432) 33554432 ww)
    have C2 := Lib.hid (fun ww => qwithin_any q (-1048576) 1048576 ww)
    have K1 := Lib.hid (@QM.vl_out p x q hc)
    have K2 := Lib.hid (@QM.vl_qty p x q hc)
    have K3 := Lib.hid (@QM.vl_ok p x q hc)
    have KR := Lib.hid (@QM.value_range p x q)
    rw [hc] at C0
    generalize QM.valueE p x q = y at *
    generalize QM.valueN p x q = z at *
    generalize QM.within x (-33554432) 33554432 = b1 at *
    generalize QM.within q (-1048576) 1048576 = b2 at *
    clear hc hq
    go_enter Try.func17, Try.ntmps17
    go_wp2_with fail
    refine (C0.out _).mono ?_
    rintro e w1 ⟨rfl, b⟩
    have HB1 := Lib.hid (HB.out.trans (b.mono HB.out.size))
    obtain ⟨c0, c1, c2, c3, c4, c5, c6⟩ := (HP.out.below b HL.out).cells
    clear b HB HP HL
    go_wp2_with fail
    refine (C1.out _).mono ?_
    rintro e w2 ⟨rfl, rfl⟩
    cases b1
    · have HX := Lib.hid (K1.out (by trivial))
      go_wp2_with fail
      go_ret2
      exact ⟨by rw [HX.out.1, HX.out.2]; rfl, HB1.out⟩
    go_wp2_with fail
    refine (C2.out _).mono ?_
    rintro e w2 ⟨rfl, rfl⟩
    cases b2
    · have HX := Lib.hid (K2.out (by trivial) (by trivial))
      go_wp2_with fail
      go_ret2
      exact ⟨by rw [HX.out.1, HX.out.2]; rfl, HB1.out⟩
    have HX := Lib.hid (K3.out (by trivial) (by trivial))
    obtain ⟨r1, r2⟩ := KR.out HX.out.1
    have hw1 : wrap64 (x * p.mult) = x * p.mult := IntWalk.wrap64_in _ (by omega)
    have hw2 : wrap64 (x * p.mult * q) = x * p.mult * q := IntWalk.wrap64_in _ (by omega)
    clear r1 r2
    go_wp2_with fail
    go_ret2
    exact ⟨by rw [HX.out.1, HX.out.2]; simp only [hw2]; rfl, HB1.out⟩
  · obtain ⟨e1, e2⟩ := @QM.vl_bad p x q hc
    rw [e1, e2]; clear e1 e2
    have hd : (QM.checkE p != 0) = true := by simpa using hc
    generalize QM.checkE p = y at *
    clear hc hq HP HL
    go_enter Try.func17, Try.ntmps17
    go_wp2_with fail
    refine (C0.out _).mono ?_
    rintro e w1 ⟨rfl, b⟩
    have HB1 := Lib.hid (HB.out.trans (b.mono HB.out.size))
    clear b
    go_wp2_with fail
    go_ret2
    exact ⟨rfl, HB1.out⟩

set_option maxHeartbeats 2000000 in
theorem rqvalue_any (p : QM.Prod) (x q : Int) (hq : prodQ p) (w : World) :
    Calls Try.prog 18 #[prodA p, .int .i64 x, .int .i64 q] w fun e w' => e = .returned (.tuple #[.int .i64 (QM.valueN p x q), .int .i64 (QM.valueE p x q)]) ∧ Below w.heap.size w w' := by
  have C0 := Lib.hid (fun ww => rqcheck_any p hq ww)
  have HB := Lib.hid ((Below.refl w.heap.size w).alloc (Nat.le_refl _) (.cells #[.string p.name, .int .i64 p.cur, .int .i64 p.mult, .int .i64 p.tick, .int .i64 p.low, .int .i64 p.high, .bool p.phys] 24))
  have HP := Lib.hid (PBox.new w p)
  have HL := Lib.hid (new_lt w (.cells #[.string p.name, .int .i64 p.cur, .int .i64 p.mult, .int .i64 p.tick, .int .i64 p.low, .int .i64 p.high, .bool p.phys] 24))
  by_cases hc : QM.checkE p = 0
  · have C1 := Lib.hid (fun ww => rqwithin_any x (-33554432) 33554432 ww)
    have C2 := Lib.hid (fun ww => rqwithin_any q (-1048576) 1048576 ww)
    have K1 := Lib.hid (@QM.vl_out p x q hc)
    have K2 := Lib.hid (@QM.vl_qty p x q hc)
    have K3 := Lib.hid (@QM.vl_ok p x q hc)
    have KR := Lib.hid (@QM.value_range p x q)
    rw [hc] at C0
    generalize QM.valueE p x q = y at *
    generalize QM.valueN p x q = z at *
    generalize QM.within x (-33554432) 33554432 = b1 at *
    generalize QM.within q (-1048576) 1048576 = b2 at *
    clear hc hq
    go_enter Try.func18, Try.ntmps18
    go_wp2_with fail
    refine (C0.out _).mono ?_
    rintro e w1 ⟨rfl, b⟩
    have HB1 := Lib.hid (HB.out.trans (b.mono HB.out.size))
    obtain ⟨c0, c1, c2, c3, c4, c5, c6⟩ := (HP.out.below b HL.out).cells
    clear b HB HP HL
    go_wp2_with fail
    refine (C1.out _).mono ?_
    rintro e w2 ⟨rfl, rfl⟩
    cases b1
    · have HX := Lib.hid (K1.out (by trivial))
      go_wp2_with fail
      go_ret2
      exact ⟨by rw [HX.out.1, HX.out.2]; rfl, HB1.out⟩
    go_wp2_with fail
    refine (C2.out _).mono ?_
    rintro e w2 ⟨rfl, rfl⟩
    cases b2
    · have HX := Lib.hid (K2.out (by trivial) (by trivial))
      go_wp2_with fail
      go_ret2
      exact ⟨by rw [HX.out.1, HX.out.2]; rfl, HB1.out⟩
    have HX := Lib.hid (K3.out (by trivial) (by trivial))
    obtain ⟨r1, r2⟩ := KR.out HX.out.1
    have hw1 : wrap64 (x * p.mult) = x * p.mult := IntWalk.wrap64_in _ (by omega)
    have hw2 : wrap64 (x * p.mult * q) = x * p.mult * q := IntWalk.wrap64_in _ (by omega)
    clear r1 r2
    go_wp2_with fail
    go_ret2
    exact ⟨by rw [HX.out.1, HX.out.2]; simp only [hw2]; rfl, HB1.out⟩
  · obtain ⟨e1, e2⟩ := @QM.vl_bad p x q hc
    rw [e1, e2]; clear e1 e2
    have hd : (QM.checkE p != 0) = true := by simpa using hc
    generalize QM.checkE p = y at *
    clear hc hq HP HL
    go_enter Try.func18, Try.ntmps18
    go_wp2_with fail
    refine (C0.out _).mono ?_
    rintro e w1 ⟨rfl, b⟩
    have HB1 := Lib.hid (HB.out.trans (b.mono HB.out.size))
    clear b
    go_wp2_with fail
    go_ret2
    exact ⟨rfl, HB1.out⟩
end Go.Proofs.Ytiohainnpjikpaa
