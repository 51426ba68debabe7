/- Put together: CentsC, CentsD, TapE, TapF, Vals, Txt, WordsA. -/
import Derived.Test.YtaegapcccboinaaBun3
import Derived.Test.YtaegapcccboinaaBun4
import Derived.Test.YtaegapcccboinaaBun1
import Derived.Deep.RegionHeld3
import Derived.Test.YtaegapcccboinaaBun2
import Derived.Laws.IdiomStrings
import Derived.Laws.Concat
namespace Go.Proofs.Ytaegapcccboinaa
open Go.RowKit
set_option maxHeartbeats 400000 in
theorem rounding_any (q r d : Int) (n : Bool) (w : World) :
    Calls Try.prog 74 #[.int .i64 q, .int .i64 r, .int .i64 d, .bool n] w fun e w' =>
      e = .returned (.func (.func 105) #[] #[.pointer (some ⟨w.heap.size + 1, 0, none⟩), .pointer (some ⟨w.heap.size + 1 + 1 + 1, 0, none⟩), .pointer (some ⟨w.heap.size + 1 + 1, 0, none⟩), .pointer (some ⟨w.heap.size, 0, none⟩)]) ∧
      w' = (((w.alloc (.cells #[.int .i64 q] 3)).alloc (.cells #[.int .i64 r] 3)).alloc (.cells #[.int .i64 d] 3)).alloc (.cells #[.bool n] 4) := by
  go_enter Try.func74, Try.ntmps74
  go_wp2
  go_ret
  exact ⟨rfl, rfl⟩

set_option maxHeartbeats 1000000 in
theorem grow_any (mode q r d : Int) (n : Bool) (p1 p2 p3 p4 : Addr) (w : World) (hm1 : 1 ≤ mode) (hm5 : mode ≤ 5)
    (h1 : w.cell? p1 = some (.int .i64 r)) (h2 : w.cell? p2 = some (.bool n)) (h3 : w.cell? p3 = some (.int .i64 d)) (h4 : w.cell? p4 = some (.int .i64 q))
    (hr0 : 0 ≤ r) (hr : r < d) (hd : d ≤ 1152921504606846976) (hq : 0 ≤ q) (hq1 : q ≤ 1152921504606846976) :
    Calls Try.prog 105 #[.int .i64 mode, .pointer (some p1), .pointer (some p2), .pointer (some p3), .pointer (some p4)] w fun e w' =>
      e = .returned (.bool (CM.grow q r d mode n)) ∧ w = w' := by
  by_cases hz : r = 0
  · subst hz
    have hg : CM.grow q 0 d mode n = false := by simp [CM.grow]
    rw [hg]; clear hg
    go_enter Try.func105, Try.ntmps105
    go_wp2
    go_ret
    exact ⟨rfl, rfl⟩
  · have hz' : (r == 0) = false := by simpa using hz
    have hm : mode = 1 ∨ mode = 2 ∨ mode = 3 ∨ mode = 4 ∨ mode = 5 := by omega
    rcases hm with rfl | rfl | rfl | rfl | rfl
    · have hg : CM.grow q r d 1 n = false := by simp [CM.grow]
      rw [hg]; clear hg hz
      go_enter Try.func105, Try.ntmps105
      go_wp2
      go_ret
      exact ⟨rfl, rfl⟩
    · have hg : CM.grow q r d 2 n = true := by simp [CM.grow, hz]
      rw [hg]; clear hg hz
      go_enter Try.func105, Try.ntmps105
      go_wp2
      go_ret
      exact ⟨rfl, rfl⟩
    · have hg : CM.grow q r d 3 n = n := by simp [CM.grow, hz]
      rw [hg]; clear hg hz
      go_enter Try.func105, Try.ntmps105
      go_wp2
      go_ret
      exact ⟨rfl, rfl⟩
    · have hg : CM.grow q r d 4 n = !n := by simp [CM.grow, hz]
      rw [hg]; clear hg hz
      go_enter Try.func105, Try.ntmps105
      go_wp2
      go_ret
      exact ⟨rfl, rfl⟩
    · by_cases g1 : d < 2 * r
      · have hg : CM.grow q r d 5 n = true := by simp [CM.grow, hz, g1]
        rw [hg]; clear hg hz
        go_enter Try.func105, Try.ntmps105
        go_wp2
        go_ret
        exact ⟨rfl, rfl⟩
      · by_cases g2 : 2 * r = d
        · subst g2
          cases g3 : decide (q % 2 = 1)
          · have hg : CM.grow q r (2 * r) 5 n = false := by simpa [CM.grow, hz] using g3
            rw [hg]; clear hg hz
            have g3' : (q % 2 == 1) = false := by simpa using g3
            clear g3
            go_enter Try.func105, Try.ntmps105
            go_wp2
            go_ret
            exact ⟨rfl, rfl⟩
          · have hg : CM.grow q r (2 * r) 5 n = true := by simpa [CM.grow, hz] using g3
            rw [hg]; clear hg hz
            have g3' : (q % 2 == 1) = true := by simpa using g3
            clear g3
            go_enter Try.func105, Try.ntmps105
            go_wp2
            go_ret
            exact ⟨rfl, rfl⟩
        · have hg : CM.grow q r d 5 n = false := by simp [CM.grow, hz, g1, g2]
          rw [hg]; clear hg hz
          have g2' : (2 * r == d) = false := by simpa using g2
          clear g2
          go_enter Try.func105, Try.ntmps105
          go_wp2
          go_ret
          exact ⟨rfl, rfl⟩

theorem cell_fresh (v : World) (q : Int) : (v.alloc (.cells #[.int .i64 q] 3)).cell? ⟨v.heap.size, 0, none⟩ = some (.int .i64 q) := by go_simp

theorem grow_new (mode q r d : Int) (n : Bool) (w : World) (k : Nat) (hm1 : 1 ≤ mode) (hm5 : mode ≤ 5)
    (hr0 : 0 ≤ r) (hr : r < d) (hd : d ≤ 1152921504606846976) (hq : 0 ≤ q) (hq1 : q ≤ 1152921504606846976) :
    Calls Try.prog 105 #[.int .i64 mode, .pointer (some ⟨w.heap.size + 1, 0, none⟩), .pointer (some ⟨w.heap.size + 1 + 1 + 1, 0, none⟩), .pointer (some ⟨w.heap.size + 1 + 1, 0, none⟩), .pointer (some ⟨w.heap.size, 0, none⟩)]
      (((((w.drewN k).alloc (.cells #[.int .i64 q] 3)).alloc (.cells #[.int .i64 r] 3)).alloc (.cells #[.int .i64 d] 3)).alloc (.cells #[.bool n] 4)) fun e w' =>
      e = .returned (.bool (CM.grow q r d mode n)) ∧ ((((w.drewN k).alloc (.cells #[.int .i64 q] 3)).alloc (.cells #[.int .i64 r] 3)).alloc (.cells #[.int .i64 d] 3)).alloc (.cells #[.bool n] 4) = w' :=
  grow_any mode q r d n _ _ _ _ _ hm1 hm5 (by go_simp) (by go_simp) (by go_simp) (by go_simp; exact cell_fresh (w.drewN k) q) hr0 hr hd hq hq1

theorem muldiv_arg (a b c mode : Int) (w : World) (h : CM.mdA a b c mode = false) :
    Calls Try.prog 39 #[.int .i64 a, .int .i64 b, .int .i64 c, .int .i64 mode] w fun e w' => e = .returned (.tuple #[.int .i64 0, .int .i64 2]) ∧ w = w' := by
  cases ha : CM.fits a
  · clear h
    go_enter Try.func39, Try.ntmps39
    go_wp2_with (go_at_call 71; refine (fits_any _ _).mono ?_; rintro e w' ⟨rfl, rfl⟩)
    go_ret2
    exact ⟨rfl, rfl⟩
  · cases hb : CM.fits b
    · clear h
      go_enter Try.func39, Try.ntmps39
      go_wp2_with (go_at_call 71; refine (fits_any _ _).mono ?_; rintro e w' ⟨rfl, rfl⟩)
      go_ret2
      exact ⟨rfl, rfl⟩
    · cases hc : CM.fits c
      · clear h
        go_enter Try.func39, Try.ntmps39
        go_wp2_with (go_at_call 71; refine (fits_any _ _).mono ?_; rintro e w' ⟨rfl, rfl⟩)
        go_ret2
        exact ⟨rfl, rfl⟩
      · simp [CM.mdA, ha, hb, hc] at h
        by_cases hm : mode < 1
        · clear h
          go_enter Try.func39, Try.ntmps39
          go_wp2_with (go_at_call 71; refine (fits_any _ _).mono ?_; rintro e w' ⟨rfl, rfl⟩)
          go_ret2
          exact ⟨rfl, rfl⟩
        · have hm5 : 5 < mode := by omega
          clear h
          go_enter Try.func39, Try.ntmps39
          go_wp2_with (go_at_call 71; refine (fits_any _ _).mono ?_; rintro e w' ⟨rfl, rfl⟩)
          go_ret2
          exact ⟨rfl, rfl⟩

theorem mdA_parts {a b c mode : Int} (h : CM.mdA a b c mode = true) : CM.fits a = true ∧ CM.fits b = true ∧ CM.fits c = true ∧ 1 ≤ mode ∧ mode ≤ 5 := by
  simp [CM.mdA] at h
  obtain ⟨⟨⟨⟨h1, h2⟩, h3⟩, h4⟩, h5⟩ := h
  exact ⟨h1, h2, h3, h4, h5⟩

theorem muldiv_zero (a b mode : Int) (w : World) (h : CM.mdA a b 0 mode = true) :
    Calls Try.prog 39 #[.int .i64 a, .int .i64 b, .int .i64 0, .int .i64 mode] w fun e w' => e = .returned (.tuple #[.int .i64 0, .int .i64 4]) ∧ w = w' := by
  obtain ⟨ha, hb, hc, h1, h5⟩ := mdA_parts h
  clear h
  go_enter Try.func39, Try.ntmps39
  go_wp2_with (go_at_call 71; refine (fits_any _ _).mono ?_; rintro e w' ⟨rfl, rfl⟩)
  go_ret2
  exact ⟨rfl, rfl⟩

set_option maxHeartbeats 400000 in
theorem muldiv_over (a b c mode : Int) (w : World) (h : CM.mdA a b c mode = true) (hc0 : (c == 0) = false)
    (hk : CM.dok (CM.size a).toNat (CM.size b).toNat (CM.size c).toNat = false) :
    Calls Try.prog 39 #[.int .i64 a, .int .i64 b, .int .i64 c, .int .i64 mode] w fun e w' => e = .returned (.tuple #[.int .i64 0, .int .i64 3]) ∧ ∃ n, w' = w.drewN n := by
  obtain ⟨ha, hb, hc, hm1, hm5⟩ := mdA_parts h
  clear h
  obtain ⟨a1, a2⟩ := CM.fits_true.1 ha
  obtain ⟨b1, b2⟩ := CM.fits_true.1 hb
  obtain ⟨c1, c2⟩ := CM.fits_true.1 hc
  have sa0 := CM.size_nonneg a
  have sa1 := CM.size_le a1 a2
  have sb0 := CM.size_nonneg b
  have sb1 := CM.size_le b1 b2
  have sc0 : 0 < CM.size c := CM.size_pos (by simpa using hc0)
  have sc1 := CM.size_le c1 c2
  go_enter Try.func39, Try.ntmps39
  go_wp2_with (first
    | (go_at_call 71; refine (fits_any _ _).mono ?_; rintro e w' ⟨rfl, rfl⟩)
    | (go_at_call 73; refine (size_any _ _ (by assumption) (by assumption)).mono ?_; rintro e w' ⟨rfl, rfl⟩)
    | (go_at_call 72; refine (divide_int _ _ _ _ (by assumption) (by assumption) (by assumption) (by assumption) (by assumption) (by assumption)).mono ?_; rintro e w' ⟨rfl, n, rfl⟩))
  go_ret2
  exact ⟨rfl, _, rfl⟩

set_option maxHeartbeats 1000000 in
theorem muldiv_in (a b c mode : Int) (w : World) (h : CM.mdA a b c mode = true) (hc0 : (c == 0) = false)
    (hk : CM.dok (CM.size a).toNat (CM.size b).toNat (CM.size c).toNat = true) :
    Calls Try.prog 39 #[.int .i64 a, .int .i64 b, .int .i64 c, .int .i64 mode] w fun e w' => e = .returned (.tuple #[.int .i64 (CM.mdN a b c mode), .int .i64 (CM.mdE a b c mode)]) ∧ Below w.heap.size w w' := by
  have hcn : c ≠ 0 := by simpa using hc0
  have HF := Lib.hid (fun g => @CM.md_fit a b c mode g h hcn)
  obtain ⟨ha, hb, hc, hm1, hm5⟩ := mdA_parts h
  clear h
  obtain ⟨a1, a2⟩ := CM.fits_true.1 ha
  obtain ⟨b1, b2⟩ := CM.fits_true.1 hb
  obtain ⟨c1, c2⟩ := CM.fits_true.1 hc
  have sa0 := CM.size_nonneg a
  have sa1 := CM.size_le a1 a2
  have sb0 := CM.size_nonneg b
  have sb1 := CM.size_le b1 b2
  have sc0 : 0 < CM.size c := CM.size_pos hcn
  have sc1 := CM.size_le c1 c2
  obtain ⟨e1, e2⟩ := CM.dq_eq hk
  have r1 := CM.mdR_lt a b hcn
  have r0 : (0 : Int) ≤ CM.mdR a b c := Int.natCast_nonneg _
  have q0 := CM.mdQ_nonneg a b c
  have q1 := CM.dok_iff.1 hk
  clear hcn
  have hneg : (!((!(decide (a < 0) == decide (b < 0))) == decide (c < 0))) = CM.neg a b c := rfl
  cases hg : CM.grow (CM.mdQ a b c) (CM.mdR a b c) (CM.size c) mode (CM.neg a b c)
  all_goals
    cases hn : CM.neg a b c
    all_goals
      rw [hn] at hg
      have HG : Hid (CM.mdG a b c mode = _) := Lib.hid (show CM.mdG a b c mode = CM.mdQ a b c + _ from by unfold CM.mdG; rw [hn, hg])
      simp only [if_true, if_false, Bool.false_eq_true] at HG
      have HN := Lib.hid hn
      rw [hn] at hneg
      clear hn
      go_enter Try.func39, Try.ntmps39
      go_wp2_with (first
        | (go_at_call 71; refine (fits_any _ _).mono ?_; rintro e w' ⟨rfl, rfl⟩)
        | (go_at_call 73; refine (size_any _ _ (by assumption) (by assumption)).mono ?_; rintro e w' ⟨rfl, rfl⟩)
        | (go_at_call 72; refine (divide_int _ _ _ _ (by assumption) (by assumption) (by assumption) (by assumption) (by assumption) (by assumption)).mono ?_; rintro e w' ⟨rfl, n, rfl⟩)
        | (go_at_call 74; refine (rounding_any _ _ _ _ _).mono ?_; rintro e w' ⟨rfl, rfl⟩)
        | (go_at_call 105; refine (grow_new _ _ _ _ _ _ _ (by assumption) (by assumption) (by assumption) (by assumption) (by assumption) (by assumption) (by assumption)).mono ?_; rintro e w' ⟨rfl, rfl⟩)
        | (go_at_call 75; refine (fitting_any _ _).mono ?_; rintro e w' ⟨rfl, rfl⟩))
      go_ret2
      refine ⟨?_, ?_⟩
      · obtain ⟨f1, f2⟩ := HF.out _ rfl
        rw [HN.out, HG.out] at f1 f2
        simp only [if_true, if_false, Bool.false_eq_true, Int.add_zero] at f1 f2
        rw [← f1, ← f2]; rfl
      · exact ((((below_drewN (Below.refl _ _) n).alloc (Nat.le_refl _) _).alloc (by simp) _).alloc (by simp <;> omega) _).alloc (by simp <;> omega) _

theorem muldiv_any (a b c mode : Int) (w : World) :
    Calls Try.prog 39 #[.int .i64 a, .int .i64 b, .int .i64 c, .int .i64 mode] w fun e w' => e = .returned (.tuple #[.int .i64 (CM.mdN a b c mode), .int .i64 (CM.mdE a b c mode)]) ∧ Below w.heap.size w w' := by
  cases h : CM.mdA a b c mode
  · have e1 : CM.mdN a b c mode = 0 := by simp [CM.mdN, h]
    have e2 : CM.mdE a b c mode = 2 := by simp [CM.mdE, h]
    rw [e1, e2]
    exact (muldiv_arg a b c mode w h).mono fun _ _ ⟨he, hw⟩ => ⟨he, by subst hw; exact Below.refl _ _⟩
  · by_cases hc : c = 0
    · subst hc
      have e1 : CM.mdN a b 0 mode = 0 := by simp [CM.mdN]
      have e2 : CM.mdE a b 0 mode = 4 := by simp [CM.mdE, h]
      rw [e1, e2]
      exact (muldiv_zero a b mode w h).mono fun _ _ ⟨he, hw⟩ => ⟨he, by subst hw; exact Below.refl _ _⟩
    · cases hk : CM.dok (CM.size a).toNat (CM.size b).toNat (CM.size c).toNat
      · obtain ⟨e1, e2⟩ := CM.md_over h hc (by
          have := (not_congr (@CM.dok_iff a b c)).1 (by rw [hk]; simp)
          omega)
        rw [e1, e2]
        exact (muldiv_over a b c mode w h (by simpa using hc) hk).mono fun _ _ ⟨he, n, hw⟩ => ⟨he, by subst hw; exact below_drewN (Below.refl _ _) n⟩
      · exact muldiv_in a b c mode w h (by simpa using hc) hk
end Go.Proofs.Ytaegapcccboinaa

namespace Go.Proofs.Ytaegapcccboinaa
open Go.RowKit

set_option maxHeartbeats 1000000 in
theorem raway_any (mode q r d : Int) (n : Bool) (w : World) (hm1 : 1 ≤ mode) (hm5 : mode ≤ 5)
    (hr0 : 0 < r) (hr : r < d) (hd : d ≤ 1152921504606846976) (hq : 0 ≤ q) :
    Calls Try.prog 79 #[.int .i64 q, .int .i64 r, .int .i64 d, .int .i64 mode, .bool n] w fun e w' =>
      e = .returned (.bool (CM.grow q r d mode n)) ∧ w = w' := by
  have hz : ¬ r = 0 := by omega
  have hm : mode = 1 ∨ mode = 2 ∨ mode = 3 ∨ mode = 4 ∨ mode = 5 := by omega
  rcases hm with rfl | rfl | rfl | rfl | rfl
  · have hg : CM.grow q r d 1 n = false := by simp [CM.grow]
    rw [hg]; clear hg hz
    go_enter Try.func79, Try.ntmps79
    go_wp2
    go_ret
    exact ⟨rfl, rfl⟩
  · have hg : CM.grow q r d 2 n = true := by simp [CM.grow, hz]
    rw [hg]; clear hg hz
    go_enter Try.func79, Try.ntmps79
    go_wp2
    go_ret
    exact ⟨rfl, rfl⟩
  · have hg : CM.grow q r d 3 n = n := by simp [CM.grow, hz]
    rw [hg]; clear hg hz
    go_enter Try.func79, Try.ntmps79
    go_wp2
    go_ret
    exact ⟨rfl, rfl⟩
  · have hg : CM.grow q r d 4 n = !n := by simp [CM.grow, hz]
    rw [hg]; clear hg hz
    go_enter Try.func79, Try.ntmps79
    go_wp2
    go_ret
    exact ⟨rfl, rfl⟩
  · by_cases g1 : d - r < r
    · have hg : CM.grow q r d 5 n = true := by simp [CM.grow, hz, show d < 2 * r by omega]
      rw [hg]; clear hg hz
      go_enter Try.func79, Try.ntmps79
      go_wp2
      go_ret
      exact ⟨rfl, rfl⟩
    · by_cases g2 : r = d - r
      · have g2' : (r == d - r) = true := by simpa using g2
        have e1 : 2 * r = d := by omega
        have e2 : ¬ d < 2 * r := by omega
        cases g3 : decide (q % 2 = 1)
        · have hg : CM.grow q r d 5 n = false := by simpa [CM.grow, hz, e1, e2] using g3
          rw [hg]; clear hg hz e1 e2 g2
          have g3' : (q % 2 == 1) = false := by simpa using g3
          clear g3
          go_enter Try.func79, Try.ntmps79
          go_wp2
          go_ret
          exact ⟨rfl, rfl⟩
        · have hg : CM.grow q r d 5 n = true := by simpa [CM.grow, hz, e1, e2] using g3
          rw [hg]; clear hg hz e1 e2 g2
          have g3' : (q % 2 == 1) = true := by simpa using g3
          clear g3
          go_enter Try.func79, Try.ntmps79
          go_wp2
          go_ret
          exact ⟨rfl, rfl⟩
      · have e1 : ¬ 2 * r = d := by omega
        have e2 : ¬ d < 2 * r := by omega
        have hg : CM.grow q r d 5 n = false := by simp [CM.grow, hz, e1, e2]
        rw [hg]; clear hg hz e1 e2
        have g2' : (r == d - r) = false := by simpa using g2
        clear g2
        go_enter Try.func79, Try.ntmps79
        go_wp2
        go_ret
        exact ⟨rfl, rfl⟩

theorem rmuldiv_arg (a b c mode : Int) (w : World) (h : CM.mdA a b c mode = false) :
    Calls Try.prog 41 #[.int .i64 a, .int .i64 b, .int .i64 c, .int .i64 mode] w fun e w' => e = .returned (.tuple #[.int .i64 0, .int .i64 2]) ∧ w = w' := by
  cases ha : CM.fits a
  · clear h
    go_enter Try.func41, Try.ntmps41
    go_wp2_with (go_at_call 76; refine (rfits_any _ _).mono ?_; rintro e w' ⟨rfl, rfl⟩)
    go_ret2
    exact ⟨rfl, rfl⟩
  · cases hb : CM.fits b
    · clear h
      go_enter Try.func41, Try.ntmps41
      go_wp2_with (go_at_call 76; refine (rfits_any _ _).mono ?_; rintro e w' ⟨rfl, rfl⟩)
      go_ret2
      exact ⟨rfl, rfl⟩
    · cases hc : CM.fits c
      · clear h
        go_enter Try.func41, Try.ntmps41
        go_wp2_with (go_at_call 76; refine (rfits_any _ _).mono ?_; rintro e w' ⟨rfl, rfl⟩)
        go_ret2
        exact ⟨rfl, rfl⟩
      · simp [CM.mdA, ha, hb, hc] at h
        by_cases hm : mode < 1
        · clear h
          go_enter Try.func41, Try.ntmps41
          go_wp2_with (go_at_call 76; refine (rfits_any _ _).mono ?_; rintro e w' ⟨rfl, rfl⟩)
          go_ret2
          exact ⟨rfl, rfl⟩
        · have hm5 : 5 < mode := by omega
          clear h
          go_enter Try.func41, Try.ntmps41
          go_wp2_with (go_at_call 76; refine (rfits_any _ _).mono ?_; rintro e w' ⟨rfl, rfl⟩)
          go_ret2
          exact ⟨rfl, rfl⟩

theorem rmuldiv_zero (a b mode : Int) (w : World) (h : CM.mdA a b 0 mode = true) :
    Calls Try.prog 41 #[.int .i64 a, .int .i64 b, .int .i64 0, .int .i64 mode] w fun e w' => e = .returned (.tuple #[.int .i64 0, .int .i64 4]) ∧ w = w' := by
  obtain ⟨ha, hb, hc, h1, h5⟩ := mdA_parts h
  clear h
  go_enter Try.func41, Try.ntmps41
  go_wp2_with (go_at_call 76; refine (rfits_any _ _).mono ?_; rintro e w' ⟨rfl, rfl⟩)
  go_ret2
  exact ⟨rfl, rfl⟩

set_option maxHeartbeats 2000000 in
theorem rmuldiv_in (a b c mode : Int) (w : World) (h : CM.mdA a b c mode = true) (hc0 : (c == 0) = false) :
    Calls Try.prog 41 #[.int .i64 a, .int .i64 b, .int .i64 c, .int .i64 mode] w fun e w' => e = .returned (.tuple #[.int .i64 (CM.mdN a b c mode), .int .i64 (CM.mdE a b c mode)]) ∧ w = w' := by
  have hcn : c ≠ 0 := by simpa using hc0
  obtain ⟨f1, f2⟩ := CM.md_ref h hcn
  obtain ⟨q0, q1, r0, r1⟩ := CM.ref_bounds a b hcn
  have F1 := Lib.hid f1; have F2 := Lib.hid f2
  obtain ⟨ha, hb, hc, hm1, hm5⟩ := mdA_parts h
  clear h f1 f2
  obtain ⟨a1, a2⟩ := CM.fits_true.1 ha
  obtain ⟨b1, b2⟩ := CM.fits_true.1 hb
  obtain ⟨c1, c2⟩ := CM.fits_true.1 hc
  have sa0 := CM.size_nonneg a
  have sa1 := CM.size_le a1 a2
  have sb0 := CM.size_nonneg b
  have sb1 := CM.size_le b1 b2
  have sc0 : 0 < CM.size c := CM.size_pos hcn
  have sc1 := CM.size_le c1 c2
  clear hcn
  have hneg : (!((!(decide (a < 0) == decide (b < 0))) == decide (c < 0))) = CM.neg a b c := rfl
  generalize hq : CM.rq (CM.size a).toNat (CM.size b).toNat (CM.size c).toNat = q at *
  generalize hr : CM.rr (CM.size a).toNat (CM.size b).toNat (CM.size c).toNat = r at *
  by_cases hr0 : 0 < r
  · cases hn : CM.neg a b c
    · rw [hn] at hneg F1 F2
      clear hn
      cases hg : CM.grow q r (CM.size c) mode false
      · rw [hg] at F1 F2
        simp only [if_false, Bool.false_eq_true, Int.add_zero] at F1 F2
        by_cases ho : 1152921504606846976 < q
        · have HE := Lib.hid (F1.out ho)
          clear F1 F2
          go_enter Try.func41, Try.ntmps41
          go_wp2_with (first
            | (go_at_call 76; refine (rfits_any _ _).mono ?_; rintro e w' ⟨rfl, rfl⟩)
            | (go_at_call 78; refine (rsize_any _ _ (by assumption) (by assumption)).mono ?_; rintro e w' ⟨rfl, rfl⟩)
            | (go_at_call 77; refine (rquotient_any _ _ _ _ (by assumption) (by assumption) (by assumption) (by assumption) (by assumption) (by assumption)).mono ?_; rintro e w' ⟨rfl, rfl⟩)
            | (go_at_call 79; refine (raway_any _ _ _ _ _ _ (by assumption) (by assumption) (by assumption) (by assumption) (by assumption) (by assumption)).mono ?_; rintro e w' ⟨rfl, rfl⟩))
          go_ret2
          exact ⟨by rw [HE.out.1, HE.out.2]; rfl, rfl⟩
        · have HE := Lib.hid (F2.out (by omega))
          clear F1 F2
          go_enter Try.func41, Try.ntmps41
          go_wp2_with (first
            | (go_at_call 76; refine (rfits_any _ _).mono ?_; rintro e w' ⟨rfl, rfl⟩)
            | (go_at_call 78; refine (rsize_any _ _ (by assumption) (by assumption)).mono ?_; rintro e w' ⟨rfl, rfl⟩)
            | (go_at_call 77; refine (rquotient_any _ _ _ _ (by assumption) (by assumption) (by assumption) (by assumption) (by assumption) (by assumption)).mono ?_; rintro e w' ⟨rfl, rfl⟩)
            | (go_at_call 79; refine (raway_any _ _ _ _ _ _ (by assumption) (by assumption) (by assumption) (by assumption) (by assumption) (by assumption)).mono ?_; rintro e w' ⟨rfl, rfl⟩))
          go_ret2
          exact ⟨by rw [HE.out.1, HE.out.2]; rfl, rfl⟩
      · rw [hg] at F1 F2
        simp only [if_true, if_false, Bool.false_eq_true] at F1 F2
        by_cases ho : 1152921504606846976 < q + 1
        · have HE := Lib.hid (F1.out ho)
          clear F1 F2
          go_enter Try.func41, Try.ntmps41
          go_wp2_with (first
            | (go_at_call 76; refine (rfits_any _ _).mono ?_; rintro e w' ⟨rfl, rfl⟩)
            | (go_at_call 78; refine (rsize_any _ _ (by assumption) (by assumption)).mono ?_; rintro e w' ⟨rfl, rfl⟩)
            | (go_at_call 77; refine (rquotient_any _ _ _ _ (by assumption) (by assumption) (by assumption) (by assumption) (by assumption) (by assumption)).mono ?_; rintro e w' ⟨rfl, rfl⟩)
            | (go_at_call 79; refine (raway_any _ _ _ _ _ _ (by assumption) (by assumption) (by assumption) (by assumption) (by assumption) (by assumption)).mono ?_; rintro e w' ⟨rfl, rfl⟩))
          go_ret2
          exact ⟨by rw [HE.out.1, HE.out.2]; rfl, rfl⟩
        · have HE := Lib.hid (F2.out (by omega))
          clear F1 F2
          go_enter Try.func41, Try.ntmps41
          go_wp2_with (first
            | (go_at_call 76; refine (rfits_any _ _).mono ?_; rintro e w' ⟨rfl, rfl⟩)
            | (go_at_call 78; refine (rsize_any _ _ (by assumption) (by assumption)).mono ?_; rintro e w' ⟨rfl, rfl⟩)
            | (go_at_call 77; refine (rquotient_any _ _ _ _ (by assumption) (by assumption) (by assumption) (by assumption) (by assumption) (by assumption)).mono ?_; rintro e w' ⟨rfl, rfl⟩)
            | (go_at_call 79; refine (raway_any _ _ _ _ _ _ (by assumption) (by assumption) (by assumption) (by assumption) (by assumption) (by assumption)).mono ?_; rintro e w' ⟨rfl, rfl⟩))
          go_ret2
          exact ⟨by rw [HE.out.1, HE.out.2]; rfl, rfl⟩
    · rw [hn] at hneg F1 F2
      clear hn
      cases hg : CM.grow q r (CM.size c) mode true
      · rw [hg] at F1 F2
        simp only [if_true, if_false, Bool.false_eq_true, Int.add_zero] at F1 F2
        by_cases ho : 1152921504606846976 < q
        · have HE := Lib.hid (F1.out ho)
          clear F1 F2
          go_enter Try.func41, Try.ntmps41
          go_wp2_with (first
            | (go_at_call 76; refine (rfits_any _ _).mono ?_; rintro e w' ⟨rfl, rfl⟩)
            | (go_at_call 78; refine (rsize_any _ _ (by assumption) (by assumption)).mono ?_; rintro e w' ⟨rfl, rfl⟩)
            | (go_at_call 77; refine (rquotient_any _ _ _ _ (by assumption) (by assumption) (by assumption) (by assumption) (by assumption) (by assumption)).mono ?_; rintro e w' ⟨rfl, rfl⟩)
            | (go_at_call 79; refine (raway_any _ _ _ _ _ _ (by assumption) (by assumption) (by assumption) (by assumption) (by assumption) (by assumption)).mono ?_; rintro e w' ⟨rfl, rfl⟩))
          go_ret2
          exact ⟨by rw [HE.out.1, HE.out.2]; rfl, rfl⟩
        · have HE := Lib.hid (F2.out (by omega))
          clear F1 F2
          go_enter Try.func41, Try.ntmps41
          go_wp2_with (first
            | (go_at_call 76; refine (rfits_any _ _).mono ?_; rintro e w' ⟨rfl, rfl⟩)
            | (go_at_call 78; refine (rsize_any _ _ (by assumption) (by assumption)).mono ?_; rintro e w' ⟨rfl, rfl⟩)
            | (go_at_call 77; refine (rquotient_any _ _ _ _ (by assumption) (by assumption) (by assumption) (by assumption) (by assumption) (by assumption)).mono ?_; rintro e w' ⟨rfl, rfl⟩)
            | (go_at_call 79; refine (raway_any _ _ _ _ _ _ (by assumption) (by assumption) (by assumption) (by assumption) (by assumption) (by assumption)).mono ?_; rintro e w' ⟨rfl, rfl⟩))
          go_ret2
          exact ⟨by rw [HE.out.1, HE.out.2]; rfl, rfl⟩
      · rw [hg] at F1 F2
        simp only [if_true] at F1 F2
        by_cases ho : 1152921504606846976 < q + 1
        · have HE := Lib.hid (F1.out ho)
          clear F1 F2
          go_enter Try.func41, Try.ntmps41
          go_wp2_with (first
            | (go_at_call 76; refine (rfits_any _ _).mono ?_; rintro e w' ⟨rfl, rfl⟩)
            | (go_at_call 78; refine (rsize_any _ _ (by assumption) (by assumption)).mono ?_; rintro e w' ⟨rfl, rfl⟩)
            | (go_at_call 77; refine (rquotient_any _ _ _ _ (by assumption) (by assumption) (by assumption) (by assumption) (by assumption) (by assumption)).mono ?_; rintro e w' ⟨rfl, rfl⟩)
            | (go_at_call 79; refine (raway_any _ _ _ _ _ _ (by assumption) (by assumption) (by assumption) (by assumption) (by assumption) (by assumption)).mono ?_; rintro e w' ⟨rfl, rfl⟩))
          go_ret2
          exact ⟨by rw [HE.out.1, HE.out.2]; rfl, rfl⟩
        · have HE := Lib.hid (F2.out (by omega))
          clear F1 F2
          go_enter Try.func41, Try.ntmps41
          go_wp2_with (first
            | (go_at_call 76; refine (rfits_any _ _).mono ?_; rintro e w' ⟨rfl, rfl⟩)
            | (go_at_call 78; refine (rsize_any _ _ (by assumption) (by assumption)).mono ?_; rintro e w' ⟨rfl, rfl⟩)
            | (go_at_call 77; refine (rquotient_any _ _ _ _ (by assumption) (by assumption) (by assumption) (by assumption) (by assumption) (by assumption)).mono ?_; rintro e w' ⟨rfl, rfl⟩)
            | (go_at_call 79; refine (raway_any _ _ _ _ _ _ (by assumption) (by assumption) (by assumption) (by assumption) (by assumption) (by assumption)).mono ?_; rintro e w' ⟨rfl, rfl⟩))
          go_ret2
          exact ⟨by rw [HE.out.1, HE.out.2]; rfl, rfl⟩
  · have hg : ∀ n, CM.grow q r (CM.size c) mode n = false := fun n => by simp [CM.grow, show r = 0 by omega]
    rw [hg] at F1 F2
    clear hg
    simp only [if_false, Bool.false_eq_true, Int.add_zero] at F1 F2
    cases hn : CM.neg a b c
    · rw [hn] at hneg F2
      clear hn
      simp only [if_false, Bool.false_eq_true] at F2
      by_cases ho : 1152921504606846976 < q
      · have HE := Lib.hid (F1.out ho)
        clear F1 F2
        go_enter Try.func41, Try.ntmps41
        go_wp2_with (first
          | (go_at_call 76; refine (rfits_any _ _).mono ?_; rintro e w' ⟨rfl, rfl⟩)
          | (go_at_call 78; refine (rsize_any _ _ (by assumption) (by assumption)).mono ?_; rintro e w' ⟨rfl, rfl⟩)
          | (go_at_call 77; refine (rquotient_any _ _ _ _ (by assumption) (by assumption) (by assumption) (by assumption) (by assumption) (by assumption)).mono ?_; rintro e w' ⟨rfl, rfl⟩)
          | (go_at_call 79; refine (raway_any _ _ _ _ _ _ (by assumption) (by assumption) (by assumption) (by assumption) (by assumption) (by assumption)).mono ?_; rintro e w' ⟨rfl, rfl⟩))
        go_ret2
        exact ⟨by rw [HE.out.1, HE.out.2]; rfl, rfl⟩
      · have HE := Lib.hid (F2.out (by omega))
        clear F1 F2
        go_enter Try.func41, Try.ntmps41
        go_wp2_with (first
          | (go_at_call 76; refine (rfits_any _ _).mono ?_; rintro e w' ⟨rfl, rfl⟩)
          | (go_at_call 78; refine (rsize_any _ _ (by assumption) (by assumption)).mono ?_; rintro e w' ⟨rfl, rfl⟩)
          | (go_at_call 77; refine (rquotient_any _ _ _ _ (by assumption) (by assumption) (by assumption) (by assumption) (by assumption) (by assumption)).mono ?_; rintro e w' ⟨rfl, rfl⟩)
          | (go_at_call 79; refine (raway_any _ _ _ _ _ _ (by assumption) (by assumption) (by assumption) (by assumption) (by assumption) (by assumption)).mono ?_; rintro e w' ⟨rfl, rfl⟩))
        go_ret2
        exact ⟨by rw [HE.out.1, HE.out.2]; rfl, rfl⟩
    · rw [hn] at hneg F2
      clear hn
      simp only [if_true] at F2
      by_cases ho : 1152921504606846976 < q
      · have HE := Lib.hid (F1.out ho)
        clear F1 F2
        go_enter Try.func41, Try.ntmps41
        go_wp2_with (first
          | (go_at_call 76; refine (rfits_any _ _).mono ?_; rintro e w' ⟨rfl, rfl⟩)
          | (go_at_call 78; refine (rsize_any _ _ (by assumption) (by assumption)).mono ?_; rintro e w' ⟨rfl, rfl⟩)
          | (go_at_call 77; refine (rquotient_any _ _ _ _ (by assumption) (by assumption) (by assumption) (by assumption) (by assumption) (by assumption)).mono ?_; rintro e w' ⟨rfl, rfl⟩)
          | (go_at_call 79; refine (raway_any _ _ _ _ _ _ (by assumption) (by assumption) (by assumption) (by assumption) (by assumption) (by assumption)).mono ?_; rintro e w' ⟨rfl, rfl⟩))
        go_ret2
        exact ⟨by rw [HE.out.1, HE.out.2]; rfl, rfl⟩
      · have HE := Lib.hid (F2.out (by omega))
        clear F1 F2
        go_enter Try.func41, Try.ntmps41
        go_wp2_with (first
          | (go_at_call 76; refine (rfits_any _ _).mono ?_; rintro e w' ⟨rfl, rfl⟩)
          | (go_at_call 78; refine (rsize_any _ _ (by assumption) (by assumption)).mono ?_; rintro e w' ⟨rfl, rfl⟩)
          | (go_at_call 77; refine (rquotient_any _ _ _ _ (by assumption) (by assumption) (by assumption) (by assumption) (by assumption) (by assumption)).mono ?_; rintro e w' ⟨rfl, rfl⟩)
          | (go_at_call 79; refine (raway_any _ _ _ _ _ _ (by assumption) (by assumption) (by assumption) (by assumption) (by assumption) (by assumption)).mono ?_; rintro e w' ⟨rfl, rfl⟩))
        go_ret2
        exact ⟨by rw [HE.out.1, HE.out.2]; rfl, rfl⟩

theorem rmuldiv_any (a b c mode : Int) (w : World) :
    Calls Try.prog 41 #[.int .i64 a, .int .i64 b, .int .i64 c, .int .i64 mode] w fun e w' => e = .returned (.tuple #[.int .i64 (CM.mdN a b c mode), .int .i64 (CM.mdE a b c mode)]) ∧ w = w' := by
  cases h : CM.mdA a b c mode
  · have e1 : CM.mdN a b c mode = 0 := by simp [CM.mdN, h]
    have e2 : CM.mdE a b c mode = 2 := by simp [CM.mdE, h]
    rw [e1, e2]
    exact rmuldiv_arg a b c mode w h
  · by_cases hc : c = 0
    · subst hc
      have e1 : CM.mdN a b 0 mode = 0 := by simp [CM.mdN]
      have e2 : CM.mdE a b 0 mode = 4 := by simp [CM.mdE, h]
      rw [e1, e2]
      exact rmuldiv_zero a b mode w h
    · exact rmuldiv_in a b c mode w h (by simpa using hc)
end Go.Proofs.Ytaegapcccboinaa

/- Contracts of layer 17: Volume, Vwap. -/
namespace Go.Proofs.Ytaegapcccboinaa
open Go.RowKit Go.Recs
set_option linter.unusedVariables false
set_option linter.unusedSimpArgs false
set_option maxHeartbeats 2000000 in
theorem volume_any (A : Option Addr) (l : List TP.Tick) (n cap : Nat) (hn : n = l.length) (w : World) (hI : Ticks w A l) :
    Calls Try.prog 19 #[.slice A n cap] w fun e w' => e = .returned (.tuple #[.int .i64 (TP.volN l), .int .i64 (TP.allE l)]) ∧ Below w.heap.size w w' := by
  have C1 := Lib.hid (tcheck_any A l n cap hn w hI)
  by_cases h : TP.allE l = 0
  · have e : TP.volN l = TP.vol l := by unfold TP.volN; rw [if_pos h]
    have C2 := Lib.hid (fun ww hh => totals_any A l n cap hn ww hh (TP.good h))
    have HI := Lib.hid hI
    rw [h] at C1 ⊢
    rw [e]
    generalize TP.vol l = x at *
    generalize TP.val l = y at *
    clear h e hI hn
    go_enter Try.func19, Try.ntmps19
    go_wp2_with fail
    refine C1.out.mono ?_
    rintro e w1 ⟨rfl, b1⟩
    have HB1 := Lib.hid b1
    clear b1
    go_wp2_with fail
    refine (C2.out _ (HI.out.below HB1.out)).mono ?_
    rintro e w2 ⟨rfl, b2⟩
    have HB2 := Lib.hid (HB1.out.trans (b2.mono HB1.out.size))
    clear b2
    go_wp2_with fail
    go_ret2
    exact ⟨rfl, HB2.out⟩
  · have e : TP.volN l = 0 := by unfold TP.volN; rw [if_neg h]
    rw [e]
    generalize TP.allE l = x at *
    have h2 : (x != 0) = true := by simpa using h
    clear e hI hn
    go_enter Try.func19, Try.ntmps19
    go_wp2_with fail
    refine C1.out.mono ?_
    rintro e w1 ⟨rfl, b1⟩
    have HB1 := Lib.hid b1
    clear b1
    go_wp2_with fail
    go_ret2
    exact ⟨rfl, HB1.out⟩
set_option maxRecDepth 100000 in
set_option maxHeartbeats 4000000 in
theorem vwap_any (A : Option Addr) (l : List TP.Tick) (n cap : Nat) (step mode : Int) (hn : n = l.length) (w : World) (hI : Ticks w A l) :
    Calls Try.prog 12 #[.slice A n cap, .int .i64 step, .int .i64 mode] w fun e w' => e = .returned (.tuple #[.int .i64 (TP.vwN l step mode), .int .i64 (TP.vwE l step mode)]) ∧ Below w.heap.size w w' := by
  have hlen := hI.len
  have C1 := Lib.hid (tcheck_any A l n cap hn w hI)
  have C3 := Lib.hid (fun n a b ww => within17_any n a b ww)
  by_cases h : TP.allE l = 0
  · have HI := Lib.hid hI
    have KS := Lib.hid (@TP.vw_step l step mode h); have KM := Lib.hid (@TP.vw_mode l step mode h); have KN := Lib.hid (@TP.vw_none l step mode h); have KO := Lib.hid (@TP.vw_ok l step mode h)
    have HG := Lib.hid (TP.good h)
    have C2 := Lib.hid (fun ww hh => totals_any A l n cap hn ww hh (TP.good h))
    have C4 := Lib.hid (fun a c ww => muldiv_any a 1 c mode ww)
    have KB := Lib.hid (@TP.vw_bounds l step mode HG.out)
    rw [h] at C1
    subst hn
    clear h hI
    generalize TP.vwE l step mode = y at *
    generalize TP.vwN l step mode = x at *
    go_enter Try.func12, Try.ntmps12
    go_wp2_with fail
    refine C1.out.mono ?_
    rintro e w1 ⟨rfl, b1⟩
    have HB1 := Lib.hid b1
    clear b1
    go_wp2_with fail
    refine (C3.out _ _ _ _).mono ?_
    rintro e w2 ⟨rfl, rfl⟩
    cases g1 : QM.within step 1 16777216
    · have HX := Lib.hid (KS.out g1)
      clear g1
      go_wp2_with fail
      go_ret2
      exact ⟨by rw [HX.out.1, HX.out.2] <;> rfl, HB1.out⟩
    go_wp2_with fail
    refine (C3.out _ _ _ _).mono ?_
    rintro e w2 ⟨rfl, rfl⟩
    cases g2 : QM.within mode 1 5
    · have HX := Lib.hid (KM.out g1 g2)
      clear g1 g2
      go_wp2_with fail
      go_ret2
      exact ⟨by rw [HX.out.1, HX.out.2] <;> rfl, HB1.out⟩
    by_cases h0 : l.length = 0
    · have HX := Lib.hid (KN.out g1 g2 h0)
      have h1 : (l.length : Int) = 0 := by omega
      clear g1 g2
      go_wp2_with fail
      go_ret2
      exact ⟨by rw [HX.out.1, HX.out.2] <;> rfl, HB1.out⟩
    · have HX := Lib.hid (KO.out g1 g2 (by omega))
      have h1 : ¬ (l.length : Int) = 0 := by omega
      obtain ⟨⟨v1, v2⟩, ⟨s1, s2⟩, _, he, ⟨k1, k2⟩, p1, p2⟩ := KB.out (QM.within_true.1 g1) (QM.within_true.1 g2).1 (QM.within_true.1 g2).2 (by omega)
      have HK : Hid (TP.vwK l step mode = CM.mdN (TP.val l) 1 (TP.vol l * step) mode) := Lib.hid rfl
      have C5 := Lib.hid (fun ww => C4.out (TP.val l) (TP.vol l * step) ww)
      rw [he, ← HK.out] at C5
      clear g1 g2 h0 KB KO KN KM KS HK C4 he
      generalize TP.vwK l step mode = k at *
      generalize TP.vol l = q at *
      generalize TP.val l = v at *
      go_wp2_with fail
      refine (C2.out _ (HI.out.below HB1.out)).mono ?_
      rintro e w2 ⟨rfl, b2⟩
      have HB2 := Lib.hid (HB1.out.trans (b2.mono HB1.out.size))
      clear b2
      go_wp2_with fail
      refine (C5.out _).mono ?_
      rintro e w3 ⟨rfl, b3⟩
      have HB3 := Lib.hid (HB2.out.trans (b3.mono HB2.out.size))
      clear b3
      go_wp2_with fail
      go_ret2
      exact ⟨by rw [HX.out.1, HX.out.2] <;> rfl, HB3.out⟩
  · have e := TP.vw_check (step := step) (mode := mode) h
    rw [e.1, e.2]
    generalize TP.allE l = x at *
    have h2 : (x != 0) = true := by simpa using h
    clear e hI hn hlen
    go_enter Try.func12, Try.ntmps12
    go_wp2_with fail
    refine C1.out.mono ?_
    rintro e w1 ⟨rfl, b1⟩
    have HB1 := Lib.hid b1
    clear b1
    go_wp2_with fail
    go_ret2
    exact ⟨rfl, HB1.out⟩
end Go.Proofs.Ytaegapcccboinaa

/- Contracts of layer 17: ticks compared, Same; the examples. -/
namespace Go.Proofs.Ytaegapcccboinaa
open Go.RowKit Go.Recs
set_option linter.unusedVariables false
set_option linter.unusedSimpArgs false
def teq (x y : TP.Tick) : Bool := (x.time == y.time) && ((x.qty == y.qty) && (x.price == y.price))
theorem teq_iff {x y : TP.Tick} : teq x y = true ↔ x = y := by
  constructor
  · intro h
    unfold teq at h
    simp only [Bool.and_eq_true, beq_iff_eq] at h
    cases x; cases y
    simp only at h
    rw [h.1, h.2.1, h.2.2]
  · rintro rfl
    simp [teq]
theorem tick_in (x y : TP.Tick) (w : World) : (Op.equalIn 10000 72 (tickA x) (tickA y)).run Try.prog w = .ok (teq x y) w := by
  have u3 := Try.underlying3
  have a3 := Try.isAgg3
  have z3 := Try.sizeOf3
  have hS : Try.prog.underlying 72 = some (.struct (Try.prog.fieldsOf 72)) := by kernel_rfl
  have hp : Try.prog.stoodInHeld 72 = false := by kernel_rfl
  rw [show (10000 : Nat) = 9999 + 1 from rfl, run_equalIn_agg w 9999 72 _ _ hS hp]
  simp only [Program.fieldsOf, Try.underlying72]
  unfold teq
  go_simp
  by_cases h1 : x.time = y.time <;> by_cases h2 : x.qty = y.qty <;> by_cases h3 : x.price = y.price <;> simp [h1, h2, h3]
theorem tick_guard : Try.prog.eqGuardType Try.prog.depth 72 = false := by kernel_rfl
set_option maxHeartbeats 4000000 in
theorem rsame17_any (A B : Option Addr) (l : List TP.Tick) (n c m d : Nat) (hn : n = l.length) (hm : m = l.length) (w : World) (hI : Ticks w A l) (hJ : Ticks w B l) :
    Calls Try.prog 17 #[.slice A n c, .slice B m d] w fun e w' => e = .returned (.bool true) ∧ ∃ k, w' = w.drewN k := by
  subst hn hm
  have hlen := hI.len
  have gl := tick_guard
  go_enter Try.func17, Try.ntmps17
  go_wp2_with fail
  go_loopw [5] (fun i wr => ∃ k : Nat, k ≤ l.length ∧ i = .int .i64 (k : Int) ∧ ∃ nd, wr = w.drewN nd) (fun i _ => l.length - (intOf i).toNat)
  case atStart => exact ⟨0, by omega, rfl, 0, rfl⟩
  case round =>
    obtain ⟨k, hk, rfl, nd, rfl⟩ := hrel
    by_cases hlt : k < l.length
    · obtain ⟨b, off, x, rfl, hb, HV, q, d0, d1, d2⟩ := ticks_get hI hlt
      obtain ⟨b', off', x', rfl, hb', HV', q', g0, g1, g2⟩ := ticks_get hJ hlt
      obtain rfl : x = x' := HV.out.symm.trans HV'.out
      have HI := Lib.hid hI; have HJ := Lib.hid hJ
      have E1 : ∀ ww, (Op.equalIn 10000 72 (tickA x) (tickA x)).run Try.prog ww = .ok true ww := fun ww => by rw [tick_in, teq_iff.2 rfl]
      clear q q' HV HV' hI hJ
      go_wp2_with fail
      go_quiet (fail)
      go_wp2_with fail
      go_roundw
      case rel => exact ⟨k + 1, by omega, by go_num, by first | exact ⟨nd, rfl⟩ | exact ⟨_, rfl⟩ | exact ⟨nd + 1, rfl⟩⟩
      case measure => simp [intOf]; omega
    · obtain rfl : k = l.length := by omega
      go_wp2_with fail
      go_ret
      exact ⟨rfl, nd, rfl⟩
/-- the page's ticks -/
def tapX : List TP.Tick := [⟨9, 2, 10⟩, ⟨10, 1, 13⟩]
def tapY : List TP.Tick := [⟨10, 1, 13⟩]
theorem tap_v1 : TP.vwN tapX 1 5 = 11 ∧ TP.vwE tapX 1 5 = 0 := by decide
theorem tap_v2 : TP.vwN tapX 5 1 = 10 ∧ TP.vwE tapX 5 1 = 0 := by decide
theorem tap_v3 : TP.vwN tapX 4 5 = 12 ∧ TP.vwE tapX 4 5 = 0 := by decide
theorem tap_r : TP.lowN tapX = 10 ∧ TP.highN tapX = 13 ∧ decide (0 < tapX.length) = true := by decide
theorem tap_w : TP.win tapX 10 20 = tapY := rfl
theorem small_tick {a b c : Int} (h : (0 ≤ a ∧ a ≤ 1000) ∧ (0 ≤ b ∧ b ≤ 1000) ∧ 0 ≤ c ∧ c ≤ 1000) : tickQ ⟨a, b, c⟩ := ⟨⟨by show _ ≤ a; omega, by show a ≤ _; omega⟩, ⟨by show _ ≤ b; omega, by show b ≤ _; omega⟩, ⟨by show _ ≤ c; omega, by show c ≤ _; omega⟩⟩
theorem tap_lit (W : World) : Ticks (W.alloc (.cells #[.int .i64 9, .int .i64 2, .int .i64 10, .int .i64 10, .int .i64 1, .int .i64 13] 72)) (some ⟨W.heap.size, 0, none⟩) tapX := by
  obtain ⟨A', cap, e, hr, _⟩ := OwnR.recs (OwnR.lit W W.heap.size 72 3 (tapX.map tickV) (by simp [tapX, tickV]) (Nat.le_refl _) (by simp [tapX, maxLen]))
  injection e with e
  subst e
  refine ⟨hr, ?_⟩
  intro x hx
  simp only [tapX, List.mem_cons, List.not_mem_nil, or_false] at hx
  rcases hx with rfl | rfl <;> exact small_tick (by decide)
set_option maxHeartbeats 8000000 in
set_option maxRecDepth 100000 in
theorem goes17_any (w : World) : Calls Try.prog 14 #[] w fun e w' => e = .returned (.bool true) ∧ Below w.heap.size w w' := by
  have V1 := Lib.hid (fun ww h => vwap_any (some ⟨w.heap.size, 0, none⟩) tapX 2 2 1 5 rfl ww h)
  rw [tap_v1.1, tap_v1.2] at V1
  have V2 := Lib.hid (fun ww h => vwap_any (some ⟨w.heap.size, 0, none⟩) tapX 2 2 5 1 rfl ww h)
  rw [tap_v2.1, tap_v2.2] at V2
  have V3 := Lib.hid (fun ww h => vwap_any (some ⟨w.heap.size, 0, none⟩) tapX 2 2 4 5 rfl ww h)
  rw [tap_v3.1, tap_v3.2] at V3
  have R := Lib.hid (fun ww h => range_any (some ⟨w.heap.size, 0, none⟩) tapX 2 2 rfl ww h)
  rw [tap_r.1, tap_r.2.1, tap_r.2.2] at R
  have W := Lib.hid (fun ww h => window_any (some ⟨w.heap.size, 0, none⟩) tapX 2 2 10 20 rfl (by decide) ww h)
  rw [tap_w] at W
  have HY : Hid (∀ ww, Ticks ww (some ⟨w.heap.size, 0, none⟩) tapX → Ticks ww (some ⟨w.heap.size, 0 + 1 * 3, none⟩) tapY) := Lib.hid (fun ww h => TR.drop_ h 1)
  have HS := Lib.hid (fun B n c d ww h1 h2 h3 => rsame17_any B (some ⟨w.heap.size, 3, none⟩) tapY n c 1 d h1 rfl ww h2 h3)
  have HT := Lib.hid (tap_lit w)
  have HB0 := Lib.hid (below_al (Below.refl w.heap.size w) (.cells #[.int .i64 9, .int .i64 2, .int .i64 10, .int .i64 10, .int .i64 1, .int .i64 13] 72))
  have HL : Hid (tapY.length = 1 ∧ ∀ x ∈ tapY, tickQ x) := Lib.hid ⟨rfl, fun x hx => by
    simp only [tapY, List.mem_cons, List.not_mem_nil, or_false] at hx
    subst hx; exact small_tick (by decide)⟩
  generalize tapX = lx at *
  generalize tapY = ly at *
  go_enter Try.func14, Try.ntmps14
  go_wp2_with fail
  refine (V1.out _ HT.out).mono ?_
  rintro e w1 ⟨rfl, b1⟩
  have HB1 := Lib.hid (HB0.out.trans (b1.mono HB0.out.size))
  have HT1 := Lib.hid (HT.out.below b1)
  clear b1
  go_wp2_with fail
  refine (V2.out _ HT1.out).mono ?_
  rintro e w2 ⟨rfl, b2⟩
  have HB2 := Lib.hid (HB1.out.trans (b2.mono HB1.out.size))
  have HT2 := Lib.hid (HT1.out.below b2)
  clear b2
  go_wp2_with fail
  refine (V3.out _ HT2.out).mono ?_
  rintro e w3 ⟨rfl, b3⟩
  have HB3 := Lib.hid (HB2.out.trans (b3.mono HB2.out.size))
  have HT3 := Lib.hid (HT2.out.below b3)
  clear b3
  go_wp2_with fail
  refine (R.out _ HT3.out).mono ?_
  rintro e w4 ⟨rfl, b4⟩
  have HB4 := Lib.hid (HB3.out.trans (b4.mono HB3.out.size))
  have HT4 := Lib.hid (HT3.out.below b4)
  clear b4
  have HBw : Hid (Below w4.heap.size w4 w4.drew) := Lib.hid (Below.refl _ _).drew
  clear V1 V2 V3 R HB0 HB1 HB2 HB3 HT HT1 HT2 HT3
  go_wp2_with fail
  go_region_held3 (fun _ => True) (trivial)
    (first
      | (go_at_call 20; refine (W.out _ (HT4.out.below HBw.out)).mono ?_; rintro e w6 ⟨v, rfl, ho, b6⟩; obtain ⟨A6, c6, rfl, ht, hc⟩ := OwnT.tr (f := tickV) (Q := tickQ) ho HL.out.2; replace HBw := Lib.hid (HBw.out.trans (b6.mono HBw.out.size)); have HV := Lib.hid ht; clear b6 ho hc ht)
      | (go_at_call 17; refine (HS.out _ _ _ _ _ (by first | rfl | trivial) HV.out (HY.out _ (HT4.out.below HBw.out))).mono ?_; rintro e w6 ⟨rfl, nq, rfl⟩; replace HBw := Lib.hid (below_drewN HBw.out nq)))
  all_goals (
    have HBF := Lib.hid (HB4.out.trans (HBw.out.mono HB4.out.size))
    clear HBw HS HY W
    go_wp2_with fail
    go_ret
    exact ⟨rfl, HBF.out⟩)
end Go.Proofs.Ytaegapcccboinaa

/- Slices of values of one cell each, of whatever type: what a slice holds, and slices that the call itself makes. -/
namespace Go.Proofs.Ytaegapcccboinaa
open Go.RowKit

/-- a slice at A holds the values vs, in w -/
def Vals (w : World) (A : Option Addr) (vs : List Value) : Prop :=
  vs.length ≤ maxLen ∧ (vs = [] ∨ ∃ b off, A = some ⟨b, off, none⟩ ∧ b < w.heap.size ∧ ∀ i, i < vs.length → w.cell? ⟨b, off + i, none⟩ = vs[i]?)

section
variable {w w' : World} {A : Option Addr} {vs : List Value}
theorem Vals.get (h : Vals w A vs) {k : Nat} (hk : k < vs.length) : ∃ b off, A = some ⟨b, off, none⟩ ∧ b < w.heap.size ∧ w.cell? ⟨b, off + k, none⟩ = some vs[k] := by
  rcases h.2 with h0 | ⟨b, off, rfl, hb, hc⟩
  · subst h0; simp at hk
  · exact ⟨b, off, rfl, hb, by rw [hc k hk, List.getElem?_eq_getElem hk]⟩
theorem Vals.len (h : Vals w A vs) : vs.length ≤ 9223372036854775807 := h.1
theorem Vals.keep (h : Vals w A vs) (hz : w.heap.size ≤ w'.heap.size) (hk : ∀ b o, b < w.heap.size → w'.cell? ⟨b, o, none⟩ = w.cell? ⟨b, o, none⟩) : Vals w' A vs := by
  refine ⟨h.1, ?_⟩
  rcases h.2 with h | ⟨b, off, rfl, hb, hc⟩
  · exact .inl h
  · exact .inr ⟨b, off, rfl, by omega, fun i hi => by rw [hk _ _ hb]; exact hc i hi⟩
theorem Vals.below (h : Vals w A vs) (hb : Below w.heap.size w w') : Vals w' A vs := h.keep hb.size fun b o hlt => hb.cell (p := ⟨b, o, none⟩) hlt
theorem Vals.drewN (h : Vals w A vs) (n : Nat) : Vals (w.drewN n) A vs := h
theorem Vals.drew (h : Vals w A vs) : Vals w.drew A vs := h
theorem Vals.nil (w : World) (A : Option Addr) : Vals w A [] := ⟨by simp, .inl rfl⟩
theorem Vals.take_ (h : Vals w A vs) (n : Nat) : Vals w A (vs.take n) := by
  refine ⟨by rw [List.length_take]; have := h.1; omega, ?_⟩
  rcases h.2 with h | ⟨b, off, rfl, hb, hc⟩
  · exact .inl (by rw [h]; simp)
  · refine .inr ⟨b, off, rfl, hb, fun i hi => ?_⟩
    rw [List.length_take] at hi
    rw [hc i (by omega), List.getElem?_take_of_lt (by omega)]
theorem Vals.drop_ {b off : Nat} (h : Vals w (some ⟨b, off, none⟩) vs) (n : Nat) : Vals w (some ⟨b, off + n, none⟩) (vs.drop n) := by
  refine ⟨by rw [List.length_drop]; have := h.1; omega, ?_⟩
  rcases h.2 with h | ⟨b', off', e, hb, hc⟩
  · exact .inl (by rw [h]; simp)
  · injection e with e
    injection e with e1 e2
    subst e1 e2
    refine .inr ⟨_, _, rfl, hb, fun i hi => ?_⟩
    rw [List.length_drop] at hi
    rw [Nat.add_assoc, hc (n + i) (by omega), List.getElem?_drop]
theorem Vals.of_row {x : Addr} {len : Nat} {vs : List Value} (hm : vs.length ≤ maxLen) (hcell : ∀ i, i < vs.length → w.cell? (x.add i) = vs[i]?) : Vals w (some x) (vs.take len) := by
  refine Vals.take_ (⟨hm, ?_⟩ : Vals w (some x) vs) len
  rcases Nat.eq_zero_or_pos vs.length with h0 | h0
  · exact .inl (List.eq_nil_of_length_eq_zero h0)
  · obtain ⟨b, off, spot⟩ := x
    have hc := hcell 0 h0
    rw [List.getElem?_eq_getElem h0] at hc
    have hspot : spot = none := by simpa [Addr.add] using World.cell?_spot hc
    subst hspot
    refine .inr ⟨b, off, rfl, World.block_lt_of_cell? _ _ hc, fun i hi => ?_⟩
    have := hcell i hi
    have e : (⟨b, off, none⟩ : Addr).add i = ⟨b, off + i, none⟩ := by
      unfold Addr.add
      by_cases h0 : i = 0
      · subst h0; simp
      · simp [h0]
    rwa [e] at this
end

/-! bytes and texts -/
def byteV (c : UInt8) : Value := .int .u8 c.toNat
def Bytes (w : World) (A : Option Addr) (l : List UInt8) : Prop := Vals w A (l.map byteV)
def Strs (w : World) (A : Option Addr) (l : List ByteArray) : Prop := Vals w A (l.map Value.string) ∧ ∀ s ∈ l, s.size ≤ maxLen
section
variable {w w' : World} {A : Option Addr}
/-- byte k, under a name of its own -/
theorem Bytes.get {l : List UInt8} (h : Bytes w A l) {k : Nat} (hk : k < l.length) :
    ∃ b off, ∃ n : Int, A = some ⟨b, off, none⟩ ∧ b < w.heap.size ∧ w.cell? ⟨b, off + k, none⟩ = some (.int .u8 n) ∧ Hid ((l[k].toNat : Int) = n) ∧ 0 ≤ n ∧ n ≤ 255 := by
  obtain ⟨b, off, rfl, hb, hc⟩ := Vals.get h (k := k) (by rw [List.length_map]; exact hk)
  have := l[k].toNat_lt
  exact ⟨b, off, _, rfl, hb, by rw [hc, List.getElem_map]; rfl, rfl, by omega, by omega⟩
theorem Bytes.len {l : List UInt8} (h : Bytes w A l) : l.length ≤ 9223372036854775807 := by have := h.1; rw [List.length_map] at this; exact this
theorem Bytes.below {l : List UInt8} (h : Bytes w A l) (hb : Below w.heap.size w w') : Bytes w' A l := Vals.below h hb
theorem Bytes.drewN {l : List UInt8} (h : Bytes w A l) (n : Nat) : Bytes (w.drewN n) A l := h
theorem Bytes.nil (w : World) (A : Option Addr) : Bytes w A [] := Vals.nil w A
theorem Bytes.take_ {l : List UInt8} (h : Bytes w A l) (n : Nat) : Bytes w A (l.take n) := by unfold Bytes; rw [List.map_take]; exact Vals.take_ h n
theorem Bytes.drop_ {b off : Nat} {l : List UInt8} (h : Bytes w (some ⟨b, off, none⟩) l) (n : Nat) : Bytes w (some ⟨b, off + n, none⟩) (l.drop n) := by unfold Bytes; rw [List.map_drop]; exact Vals.drop_ h n
theorem Strs.get {l : List ByteArray} (h : Strs w A l) {k : Nat} (hk : k < l.length) :
    ∃ b off s, A = some ⟨b, off, none⟩ ∧ b < w.heap.size ∧ w.cell? ⟨b, off + k, none⟩ = some (.string s) ∧ Hid (l[k] = s) ∧ s.size ≤ 9223372036854775807 := by
  obtain ⟨b, off, rfl, hb, hc⟩ := Vals.get h.1 (k := k) (by rw [List.length_map]; exact hk)
  exact ⟨b, off, _, rfl, hb, by rw [hc, List.getElem_map], rfl, h.2 _ (List.getElem_mem hk)⟩
theorem Strs.len {l : List ByteArray} (h : Strs w A l) : l.length ≤ 9223372036854775807 := by have := h.1.1; rw [List.length_map] at this; exact this
theorem Strs.below {l : List ByteArray} (h : Strs w A l) (hb : Below w.heap.size w w') : Strs w' A l := ⟨h.1.below hb, h.2⟩
theorem Strs.drewN {l : List ByteArray} (h : Strs w A l) (n : Nat) : Strs (w.drewN n) A l := h
theorem Strs.nil (w : World) (A : Option Addr) : Strs w A [] := ⟨Vals.nil w A, by simp⟩
end

/-- the slice v, in memory from block B on, of elements of type t, holds the values vs -/
def OwnV (w : World) (B : Nat) (t : TypeId) (v : Value) (vs : List Value) : Prop := w.ownsRow B t 1 v vs.length vs
section
variable {w w' : World} {B : Nat} {t : TypeId} {v : Value} {vs : List Value}
theorem OwnV.nil (w : World) (B : Nat) (t : TypeId) : OwnV w B t (.slice none 0 0) [] := World.ownsRow_nil _ _ _ _
theorem OwnV.form (h : OwnV w B t v vs) : (v = .slice none 0 0 ∧ vs = []) ∨ ∃ g cap, v = .slice (some ⟨g, 0, none⟩) vs.length cap ∧ B ≤ g ∧ g < w.heap.size ∧ vs.length ≤ cap := by
  rcases h.2 with ⟨rfl, h0⟩ | ⟨g, cap, cur, rfl, hB, hh, hn, _⟩
  · exact .inl ⟨rfl, List.eq_nil_of_length_eq_zero h0⟩
  · refine .inr ⟨g, cap, rfl, hB, ?_, hn⟩
    rcases Nat.lt_or_ge g w.heap.size with hlt | hge
    · exact hlt
    · rw [Array.getElem?_eq_none hge] at hh; cases hh
theorem OwnV.len (h : OwnV w B t v vs) : vs.length ≤ maxLen := by
  rcases h.2 with ⟨_, h0⟩ | ⟨g, cap, cur, _, _, _, hn, hm, _⟩
  · rw [h0]; exact Nat.zero_le _
  · exact Nat.le_trans hn hm
theorem OwnV.vals (h : OwnV w B t v vs) : ∃ A cap, v = .slice A vs.length cap ∧ Vals w A vs := by
  have hl := h.len
  rcases h.2 with ⟨rfl, h0⟩ | ⟨g, cap, cur, rfl, hB, hh, hn, hm, hs, ht⟩
  · have := List.eq_nil_of_length_eq_zero h0
    subst this
    exact ⟨none, 0, rfl, Vals.nil _ _⟩
  · have hg : g < w.heap.size := by
      rcases Nat.lt_or_ge g w.heap.size with hlt | hge
      · exact hlt
      · rw [Array.getElem?_eq_none hge] at hh; cases hh
    refine ⟨_, cap, rfl, hl, .inr ⟨g, 0, rfl, hg, fun i hi => ?_⟩⟩
    rw [Nat.zero_add, World.ownsRow.cellAt h i (by omega), List.getElem?_eq_getElem hi]
theorem OwnV.kept (h : OwnV w B t v vs) (hb : ∀ g, B ≤ g → g < w.heap.size → w'.heap[g]? = w.heap[g]?) : OwnV w' B t v vs := by
  refine ⟨h.1, ?_⟩
  rcases h.2 with h0 | ⟨g, cap, cur, hv, hB, hh, r⟩
  · exact .inl h0
  · refine .inr ⟨g, cap, cur, hv, hB, ?_, r⟩
    rcases Nat.lt_or_ge g w.heap.size with hlt | hge
    · rw [hb g hB hlt]; exact hh
    · rw [Array.getElem?_eq_none hge] at hh; cases hh
theorem OwnV.below (h : OwnV w B t v vs) (hb : Below w.heap.size w w') : OwnV w' B t v vs := h.kept fun g _ hg => hb.block g hg
theorem OwnV.alloc (h : OwnV w B t v vs) (o : Obj) : OwnV (w.alloc o) B t v vs := World.ownsRow.alloc h o
theorem OwnV.drewN (h : OwnV w B t v vs) (n : Nat) : OwnV (w.drewN n) B t v vs := h
theorem OwnV.block (h : OwnV w B t v vs) : ∀ k, v.ownBlock = some k → B ≤ k := fun k hk => (World.ownsRow.lt h k hk).1
end

/-- 's = append(s, x)', the new element in a block of its own just made -/
theorem wpList_pushV {P : Program} {ops : Array Oper} {rest : List Oper} {o : Oper} {a : Act} {Q : Exit → Act → World → Prop} (w : World) (x : Value) (hx1 : x.oneCell' = true) (B : Nat) (vs : List Value) (s y : Operand) (ts t : TypeId) (bytes : Nat) (z : Value)
    (hu : P.underlying ts = some (.slice t)) (hinfo : (P.info? t).map (fun i => (i.zero, i.size, i.bytes)) = some (some z, 1, bytes)) (hz : z.cells.size = 1)
    (hgd : o.guard = none) (ho : o.op = .call { callee := .builtin .append, args := #[s, y], argTypes := #[ts, ts] })
    (v : Value) (hs : a.eval s = v) (hx : a.eval y = .slice (some ⟨w.heap.size, 0, none⟩) 1 1) (hown : OwnV w B t v vs) (hl : (vs.length + 1) * bytes ≤ 140737488355328) (hm : vs.length + 1 ≤ maxLen) (hB : B ≤ w.heap.size)
    (h : ∀ v' w', OwnV w' B t v' (vs ++ [x]) → Below B w w' → w.heap.size ≤ w'.heap.size → w.grownBy w' v.ownBlock → wpList P ops Q rest (a.put o.dst v') w') :
    wpList P ops Q (o :: rest) a (w.alloc (.cells #[x] t)) := by
  obtain ⟨i0, hi, hz0, hz1, hz2⟩ := info_parts hinfo
  refine wpList_append_own (w.alloc (.cells #[x] t)) hgd s y ts ho B t i0 z 1 bytes hu hi hz0 hz1 hz2 hz (by decide) v vs.length vs hs (OwnV.alloc hown _)
    ⟨w.heap.size, 0, none⟩ 1 1 [x] hx rfl ?_ ?_ hm hl (by simp; omega) ?_
  · intro j u hj
    match j, hj with
    | 0, hj => simp at hj; subst hj; simp [Addr.add]
  · intro u hu; simp at hu; subst hu; exact hx1
  · intro v' w' h1 h2 _
    have hg : w.grownBy w' v.ownBlock := (World.grownBy_alloc w _ v.ownBlock).trans h2
    refine h v' w' (by unfold OwnV; simpa using h1) ?_ hg.size hg
    exact (Below.refl B w).grown hg hB (OwnV.block hown)
end Go.Proofs.Ytaegapcccboinaa

/- Strings and their bytes. -/
namespace Go.Proofs.Ytaegapcccboinaa
open Go.RowKit

/-- a string's bytes -/
def L (s : ByteArray) : List UInt8 := s.data.toList
/-- the string of some bytes -/
def S (l : List UInt8) : ByteArray := ⟨l.toArray⟩
theorem L_S (l : List UInt8) : L (S l) = l := by simp [L, S]
theorem S_L (s : ByteArray) : S (L s) = s := by
  obtain ⟨d⟩ := s
  show ByteArray.mk d.toList.toArray = _
  rw [Array.toArray_toList]
theorem L_len (s : ByteArray) : (L s).length = s.size := Array.length_toList
theorem S_size (l : List UInt8) : (S l).size = l.length := List.size_toArray
theorem L_toList (s : ByteArray) : s.toList = L s := ByteArray.toList_eq s
theorem L_get (s : ByteArray) (k : Nat) (h : k < s.size) : (L s)[k]'(by rw [L_len]; exact h) = s[k] := by simp [L, ByteArray.getElem_eq_getElem_data]
theorem L_take_succ (s : ByteArray) (k : Nat) (h : k < s.size) : (L s).take (k + 1) = (L s).take k ++ [s[k]] := by
  rw [WM.take_snoc (L s) k (by rw [L_len]; exact h), L_get s k h]
theorem L_take_all (s : ByteArray) : (L s).take s.size = L s := List.take_of_length_le (by rw [L_len]; exact Nat.le_refl _)
theorem L_extract (s : ByteArray) (a b : Nat) : L (s.extract a b) = ((L s).take b).drop a := by
  simp [L, ByteArray.data_extract, List.drop_take]
theorem L_append (a b : ByteArray) : L (a ++ b) = L a ++ L b := by simp [L, ByteArray.data_append]
theorem L_inj {a b : ByteArray} (h : L a = L b) : a = b := by rw [← S_L a, ← S_L b, h]
theorem L_head (s : ByteArray) (h : 0 < s.size) : (L s).headD 0 = s[0] := by
  rw [← L_get s 0 h]
  have hl : 0 < (L s).length := by rw [L_len]; exact h
  rw [List.headD_eq_head?_getD, List.head?_eq_getElem?, List.getElem?_eq_getElem hl]
  rfl
theorem L_nil {s : ByteArray} (h : s.size = 0) : L s = [] := List.eq_nil_of_length_eq_zero (by rw [L_len]; exact h)
theorem isEmpty_false {s : ByteArray} (h : 0 < s.size) : s.toList.isEmpty = false := by
  rw [L_toList, List.isEmpty_eq_false_iff]
  intro e
  have := L_len s
  rw [e] at this; simp at this; omega
theorem isEmpty_true {s : ByteArray} (h : s.size = 0) : s.toList.isEmpty = true := by
  rw [L_toList, L_nil h]; rfl
theorem beq_t {a b : Int} (h : a = b) : (a == b) = true := by simpa using h
theorem beq_f {a b : Int} (h : ¬ a = b) : (a == b) = false := by simpa using h
end Go.Proofs.Ytaegapcccboinaa

/- Contracts of the small functions of layer 3 that look at bytes and digits. -/
namespace Go.Proofs.Ytaegapcccboinaa
open Go.RowKit

theorem isLetter_any (c : UInt8) (w : World) :
    Calls Try.prog 108 #[.int .u8 (c.toNat : Int)] w fun e w' => e = .returned (.bool (WM.letter c)) ∧ w = w' := by
  by_cases h1 : 97 ≤ (c.toNat : Int)
  · by_cases h2 : (c.toNat : Int) ≤ 122
    · rw [WM.letter_true.2 ⟨h1, h2⟩]
      go_enter Try.func108, Try.ntmps108
      go_wp2
      go_ret
      exact ⟨rfl, rfl⟩
    · rw [WM.letter_false.2 (by omega)]
      go_enter Try.func108, Try.ntmps108
      go_wp2
      go_ret
      exact ⟨rfl, rfl⟩
  · rw [WM.letter_false.2 (by omega)]
    go_enter Try.func108, Try.ntmps108
    go_wp2
    go_ret
    exact ⟨rfl, rfl⟩

theorem isDigit_any (c : UInt8) (w : World) :
    Calls Try.prog 109 #[.int .u8 (c.toNat : Int)] w fun e w' => e = .returned (.bool (WM.dig c)) ∧ w = w' := by
  by_cases h1 : 48 ≤ (c.toNat : Int)
  · by_cases h2 : (c.toNat : Int) ≤ 57
    · rw [WM.dig_true.2 ⟨h1, h2⟩]
      go_enter Try.func109, Try.ntmps109
      go_wp2
      go_ret
      exact ⟨rfl, rfl⟩
    · rw [WM.dig_false.2 (by omega)]
      go_enter Try.func109, Try.ntmps109
      go_wp2
      go_ret
      exact ⟨rfl, rfl⟩
  · rw [WM.dig_false.2 (by omega)]
    go_enter Try.func109, Try.ntmps109
    go_wp2
    go_ret
    exact ⟨rfl, rfl⟩

theorem all_step {p : UInt8 → Bool} {s : ByteArray} {k : Nat} (h : k < s.size) (ha : ((L s).take k).all p = true) (hk : p s[k] = true) : ((L s).take (k + 1)).all p = true := by
  rw [L_take_succ s k h, WM.all_snoc, ha, hk]; rfl
theorem all_not {p : UInt8 → Bool} {s : ByteArray} {k : Nat} (h : k < s.size) (hk : p s[k] = false) : (L s).all p = false :=
  WM.not_all k (by rw [L_len]; exact h) (by rw [L_get s k h]; exact hk)

end Go.Proofs.Ytaegapcccboinaa
