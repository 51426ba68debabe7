import Derived.Test.YtagmknahmkniaaaBase
import Derived.Test.YtagmknahmkniaaaCentsB
namespace Go.Proofs.Ytagmknahmkniaaa
open Go.RowKit
set_option maxHeartbeats 400000 in
theorem rounding_any (q r d : Int) (n : Bool) (w : World) :
    Calls Try.prog 70 #[.int .i64 q, .int .i64 r, .int .i64 d, .bool n] w fun e w' =>
      e = .returned (.func (.func 79) #[] #[.pointer (some ⟨w.heap.size + 1, 0, none⟩), .pointer (some ⟨w.heap.size + 1 + 1 + 1, 0, none⟩), .pointer (some ⟨w.heap.size + 1 + 1, 0, none⟩), .pointer (some ⟨w.heap.size, 0, none⟩)]) ∧
      w' = (((w.alloc (.cells #[.int .i64 q] 3)).alloc (.cells #[.int .i64 r] 3)).alloc (.cells #[.int .i64 d] 3)).alloc (.cells #[.bool n] 4) := by
  go_enter Try.func70, Try.ntmps70
  go_wp2
  go_ret
  exact ⟨rfl, rfl⟩

set_option maxHeartbeats 1000000 in
theorem grow_any (mode q r d : Int) (n : Bool) (p1 p2 p3 p4 : Addr) (w : World) (hm1 : 1 ≤ mode) (hm5 : mode ≤ 5)
    (h1 : w.cell? p1 = some (.int .i64 r)) (h2 : w.cell? p2 = some (.bool n)) (h3 : w.cell? p3 = some (.int .i64 d)) (h4 : w.cell? p4 = some (.int .i64 q))
    (hr0 : 0 ≤ r) (hr : r < d) (hd : d ≤ 1152921504606846976) (hq : 0 ≤ q) (hq1 : q ≤ 1152921504606846976) :
    Calls Try.prog 79 #[.int .i64 mode, .pointer (some p1), .pointer (some p2), .pointer (some p3), .pointer (some p4)] w fun e w' =>
      e = .returned (.bool (CM.grow q r d mode n)) ∧ w = w' := by
  by_cases hz : r = 0
  · subst hz
    have hg : CM.grow q 0 d mode n = false := by simp [CM.grow]
    rw [hg]; clear hg
    go_enter Try.func79, Try.ntmps79
    go_wp2
    go_ret
    exact ⟨rfl, rfl⟩
  · have hz' : (r == 0) = false := by simpa using hz
    have hm : mode = 1 ∨ mode = 2 ∨ mode = 3 ∨ mode = 4 ∨ mode = 5 := by omega
    rcases hm with rfl | rfl | rfl | rfl | rfl
    · have hg : CM.grow q r d 1 n = false := by simp [CM.grow]
      rw [hg]; clear hg hz
      go_enter Try.func79, Try.ntmps79
      go_wp2
      go_ret
      exact ⟨rfl, rfl⟩
    · have hg : CM.grow q r d 2 n = true := by simp [CM.grow, hz]
      rw [hg]; clear hg hz
      go_enter Try.func79, Try.ntmps79
      go_wp2
      go_ret
      exact ⟨rfl, rfl⟩
    · have hg : CM.grow q r d 3 n = n := by simp [CM.grow, hz]
      rw [hg]; clear hg hz
      go_enter Try.func79, Try.ntmps79
      go_wp2
      go_ret
      exact ⟨rfl, rfl⟩
    · have hg : CM.grow q r d 4 n = !n := by simp [CM.grow, hz]
      rw [hg]; clear hg hz
      go_enter Try.func79, Try.ntmps79
      go_wp2
      go_ret
      exact ⟨rfl, rfl⟩
    · by_cases g1 : d < 2 * r
      · have hg : CM.grow q r d 5 n = true := by simp [CM.grow, hz, g1]
        rw [hg]; clear hg hz
        go_enter Try.func79, Try.ntmps79
        go_wp2
        go_ret
        exact ⟨rfl, rfl⟩
      · by_cases g2 : 2 * r = d
        · subst g2
          cases g3 : decide (q % 2 = 1)
          · have hg : CM.grow q r (2 * r) 5 n = false := by simpa [CM.grow, hz] using g3
            rw [hg]; clear hg hz
            have g3' : (q % 2 == 1) = false := by simpa using g3
            clear g3
            go_enter Try.func79, Try.ntmps79
            go_wp2
            go_ret
            exact ⟨rfl, rfl⟩
          · have hg : CM.grow q r (2 * r) 5 n = true := by simpa [CM.grow, hz] using g3
            rw [hg]; clear hg hz
            have g3' : (q % 2 == 1) = true := by simpa using g3
            clear g3
            go_enter Try.func79, Try.ntmps79
            go_wp2
            go_ret
            exact ⟨rfl, rfl⟩
        · have hg : CM.grow q r d 5 n = false := by simp [CM.grow, hz, g1, g2]
          rw [hg]; clear hg hz
          have g2' : (2 * r == d) = false := by simpa using g2
          clear g2
          go_enter Try.func79, Try.ntmps79
          go_wp2
          go_ret
          exact ⟨rfl, rfl⟩

theorem cell_fresh (v : World) (q : Int) : (v.alloc (.cells #[.int .i64 q] 3)).cell? ⟨v.heap.size, 0, none⟩ = some (.int .i64 q) := by go_simp

theorem grow_new (mode q r d : Int) (n : Bool) (w : World) (k : Nat) (hm1 : 1 ≤ mode) (hm5 : mode ≤ 5)
    (hr0 : 0 ≤ r) (hr : r < d) (hd : d ≤ 1152921504606846976) (hq : 0 ≤ q) (hq1 : q ≤ 1152921504606846976) :
    Calls Try.prog 79 #[.int .i64 mode, .pointer (some ⟨w.heap.size + 1, 0, none⟩), .pointer (some ⟨w.heap.size + 1 + 1 + 1, 0, none⟩), .pointer (some ⟨w.heap.size + 1 + 1, 0, none⟩), .pointer (some ⟨w.heap.size, 0, none⟩)]
      (((((w.drewN k).alloc (.cells #[.int .i64 q] 3)).alloc (.cells #[.int .i64 r] 3)).alloc (.cells #[.int .i64 d] 3)).alloc (.cells #[.bool n] 4)) fun e w' =>
      e = .returned (.bool (CM.grow q r d mode n)) ∧ ((((w.drewN k).alloc (.cells #[.int .i64 q] 3)).alloc (.cells #[.int .i64 r] 3)).alloc (.cells #[.int .i64 d] 3)).alloc (.cells #[.bool n] 4) = w' :=
  grow_any mode q r d n _ _ _ _ _ hm1 hm5 (by go_simp) (by go_simp) (by go_simp) (by go_simp; exact cell_fresh (w.drewN k) q) hr0 hr hd hq hq1

theorem muldiv_arg (a b c mode : Int) (w : World) (h : CM.mdA a b c mode = false) :
    Calls Try.prog 55 #[.int .i64 a, .int .i64 b, .int .i64 c, .int .i64 mode] w fun e w' => e = .returned (.tuple #[.int .i64 0, .int .i64 2]) ∧ w = w' := by
  cases ha : CM.fits a
  · clear h
    go_enter Try.func55, Try.ntmps55
    go_wp2_with (go_at_call 67; refine (fits_any _ _).mono ?_; rintro e w' ⟨rfl, rfl⟩)
    go_ret2
    exact ⟨rfl, rfl⟩
  · cases hb : CM.fits b
    · clear h
      go_enter Try.func55, Try.ntmps55
      go_wp2_with (go_at_call 67; refine (fits_any _ _).mono ?_; rintro e w' ⟨rfl, rfl⟩)
      go_ret2
      exact ⟨rfl, rfl⟩
    · cases hc : CM.fits c
      · clear h
        go_enter Try.func55, Try.ntmps55
        go_wp2_with (go_at_call 67; refine (fits_any _ _).mono ?_; rintro e w' ⟨rfl, rfl⟩)
        go_ret2
        exact ⟨rfl, rfl⟩
      · simp [CM.mdA, ha, hb, hc] at h
        by_cases hm : mode < 1
        · clear h
          go_enter Try.func55, Try.ntmps55
          go_wp2_with (go_at_call 67; refine (fits_any _ _).mono ?_; rintro e w' ⟨rfl, rfl⟩)
          go_ret2
          exact ⟨rfl, rfl⟩
        · have hm5 : 5 < mode := by omega
          clear h
          go_enter Try.func55, Try.ntmps55
          go_wp2_with (go_at_call 67; refine (fits_any _ _).mono ?_; rintro e w' ⟨rfl, rfl⟩)
          go_ret2
          exact ⟨rfl, rfl⟩

theorem mdA_parts {a b c mode : Int} (h : CM.mdA a b c mode = true) : CM.fits a = true ∧ CM.fits b = true ∧ CM.fits c = true ∧ 1 ≤ mode ∧ mode ≤ 5 := by
  simp [CM.mdA] at h
  obtain ⟨⟨⟨⟨h1, h2⟩, h3⟩, h4⟩, h5⟩ := h
  exact ⟨h1, h2, h3, h4, h5⟩

theorem muldiv_zero (a b mode : Int) (w : World) (h : CM.mdA a b 0 mode = true) :
    Calls Try.prog 55 #[.int .i64 a, .int .i64 b, .int .i64 0, .int .i64 mode] w fun e w' => e = .returned (.tuple #[.int .i64 0, .int .i64 4]) ∧ w = w' := by
  obtain ⟨ha, hb, hc, h1, h5⟩ := mdA_parts h
  clear h
  go_enter Try.func55, Try.ntmps55
  go_wp2_with (go_at_call 67; refine (fits_any _ _).mono ?_; rintro e w' ⟨rfl, rfl⟩)
  go_ret2
  exact ⟨rfl, rfl⟩

set_option maxHeartbeats 400000 in
theorem muldiv_over (a b c mode : Int) (w : World) (h : CM.mdA a b c mode = true) (hc0 : (c == 0) = false)
    (hk : CM.dok (CM.size a).toNat (CM.size b).toNat (CM.size c).toNat = false) :
    Calls Try.prog 55 #[.int .i64 a, .int .i64 b, .int .i64 c, .int .i64 mode] w fun e w' => e = .returned (.tuple #[.int .i64 0, .int .i64 3]) ∧ ∃ n, w' = w.drewN n := by
  obtain ⟨ha, hb, hc, hm1, hm5⟩ := mdA_parts h
  clear h
  obtain ⟨a1, a2⟩ := CM.fits_true.1 ha
  obtain ⟨b1, b2⟩ := CM.fits_true.1 hb
  obtain ⟨c1, c2⟩ := CM.fits_true.1 hc
  have sa0 := CM.size_nonneg a
  have sa1 := CM.size_le a1 a2
  have sb0 := CM.size_nonneg b
  have sb1 := CM.size_le b1 b2
  have sc0 : 0 < CM.size c := CM.size_pos (by simpa using hc0)
  have sc1 := CM.size_le c1 c2
  go_enter Try.func55, Try.ntmps55
  go_wp2_with (first
    | (go_at_call 67; refine (fits_any _ _).mono ?_; rintro e w' ⟨rfl, rfl⟩)
    | (go_at_call 69; refine (size_any _ _ (by assumption) (by assumption)).mono ?_; rintro e w' ⟨rfl, rfl⟩)
    | (go_at_call 68; refine (divide_int _ _ _ _ (by assumption) (by assumption) (by assumption) (by assumption) (by assumption) (by assumption)).mono ?_; rintro e w' ⟨rfl, n, rfl⟩))
  go_ret2
  exact ⟨rfl, _, rfl⟩

set_option maxHeartbeats 1000000 in
theorem muldiv_in (a b c mode : Int) (w : World) (h : CM.mdA a b c mode = true) (hc0 : (c == 0) = false)
    (hk : CM.dok (CM.size a).toNat (CM.size b).toNat (CM.size c).toNat = true) :
    Calls Try.prog 55 #[.int .i64 a, .int .i64 b, .int .i64 c, .int .i64 mode] w fun e w' => e = .returned (.tuple #[.int .i64 (CM.mdN a b c mode), .int .i64 (CM.mdE a b c mode)]) ∧ Below w.heap.size w w' := by
  have hcn : c ≠ 0 := by simpa using hc0
  have HF := Lib.hid (fun g => @CM.md_fit a b c mode g h hcn)
  obtain ⟨ha, hb, hc, hm1, hm5⟩ := mdA_parts h
  clear h
  obtain ⟨a1, a2⟩ := CM.fits_true.1 ha
  obtain ⟨b1, b2⟩ := CM.fits_true.1 hb
  obtain ⟨c1, c2⟩ := CM.fits_true.1 hc
  have sa0 := CM.size_nonneg a
  have sa1 := CM.size_le a1 a2
  have sb0 := CM.size_nonneg b
  have sb1 := CM.size_le b1 b2
  have sc0 : 0 < CM.size c := CM.size_pos hcn
  have sc1 := CM.size_le c1 c2
  obtain ⟨e1, e2⟩ := CM.dq_eq hk
  have r1 := CM.mdR_lt a b hcn
  have r0 : (0 : Int) ≤ CM.mdR a b c := Int.natCast_nonneg _
  have q0 := CM.mdQ_nonneg a b c
  have q1 := CM.dok_iff.1 hk
  clear hcn
  have hneg : (!((!(decide (a < 0) == decide (b < 0))) == decide (c < 0))) = CM.neg a b c := rfl
  cases hg : CM.grow (CM.mdQ a b c) (CM.mdR a b c) (CM.size c) mode (CM.neg a b c)
  all_goals
    cases hn : CM.neg a b c
    all_goals
      rw [hn] at hg
      have HG : Hid (CM.mdG a b c mode = _) := Lib.hid (show CM.mdG a b c mode = CM.mdQ a b c + _ from by unfold CM.mdG; rw [hn, hg])
      simp only [if_true, if_false, Bool.false_eq_true] at HG
      have HN := Lib.hid hn
      rw [hn] at hneg
      clear hn
      go_enter Try.func55, Try.ntmps55
      go_wp2_with (first
        | (go_at_call 67; refine (fits_any _ _).mono ?_; rintro e w' ⟨rfl, rfl⟩)
        | (go_at_call 69; refine (size_any _ _ (by assumption) (by assumption)).mono ?_; rintro e w' ⟨rfl, rfl⟩)
        | (go_at_call 68; refine (divide_int _ _ _ _ (by assumption) (by assumption) (by assumption) (by assumption) (by assumption) (by assumption)).mono ?_; rintro e w' ⟨rfl, n, rfl⟩)
        | (go_at_call 70; refine (rounding_any _ _ _ _ _).mono ?_; rintro e w' ⟨rfl, rfl⟩)
        | (go_at_call 79; refine (grow_new _ _ _ _ _ _ _ (by assumption) (by assumption) (by assumption) (by assumption) (by assumption) (by assumption) (by assumption)).mono ?_; rintro e w' ⟨rfl, rfl⟩)
        | (go_at_call 71; refine (fitting_any _ _).mono ?_; rintro e w' ⟨rfl, rfl⟩))
      go_ret2
      refine ⟨?_, ?_⟩
      · obtain ⟨f1, f2⟩ := HF.out _ rfl
        rw [HN.out, HG.out] at f1 f2
        simp only [if_true, if_false, Bool.false_eq_true, Int.add_zero] at f1 f2
        rw [← f1, ← f2]; rfl
      · exact ((((below_drewN (Below.refl _ _) n).alloc (Nat.le_refl _) _).alloc (by simp) _).alloc (by simp <;> omega) _).alloc (by simp <;> omega) _

theorem muldiv_any (a b c mode : Int) (w : World) :
    Calls Try.prog 55 #[.int .i64 a, .int .i64 b, .int .i64 c, .int .i64 mode] w fun e w' => e = .returned (.tuple #[.int .i64 (CM.mdN a b c mode), .int .i64 (CM.mdE a b c mode)]) ∧ Below w.heap.size w w' := by
  cases h : CM.mdA a b c mode
  · have e1 : CM.mdN a b c mode = 0 := by simp [CM.mdN, h]
    have e2 : CM.mdE a b c mode = 2 := by simp [CM.mdE, h]
    rw [e1, e2]
    exact (muldiv_arg a b c mode w h).mono fun _ _ ⟨he, hw⟩ => ⟨he, by subst hw; exact Below.refl _ _⟩
  · by_cases hc : c = 0
    · subst hc
      have e1 : CM.mdN a b 0 mode = 0 := by simp [CM.mdN]
      have e2 : CM.mdE a b 0 mode = 4 := by simp [CM.mdE, h]
      rw [e1, e2]
      exact (muldiv_zero a b mode w h).mono fun _ _ ⟨he, hw⟩ => ⟨he, by subst hw; exact Below.refl _ _⟩
    · cases hk : CM.dok (CM.size a).toNat (CM.size b).toNat (CM.size c).toNat
      · obtain ⟨e1, e2⟩ := CM.md_over h hc (by
          have := (not_congr (@CM.dok_iff a b c)).1 (by rw [hk]; simp)
          omega)
        rw [e1, e2]
        exact (muldiv_over a b c mode w h (by simpa using hc) hk).mono fun _ _ ⟨he, n, hw⟩ => ⟨he, by subst hw; exact below_drewN (Below.refl _ _) n⟩
      · exact muldiv_in a b c mode w h (by simpa using hc) hk
end Go.Proofs.Ytagmknahmkniaaa
