import Derived.Test.YtgpdkidbmfngmaaShareC
import Derived.Test.YtgpdkidbmfngmaaShareMath3
namespace Go.Proofs.Ytgpdkidbmfngmaa
open Go.RowKit

set_option maxHeartbeats 1000000 in
theorem split_any (total : Int) (A : Option Addr) (zs : List Int) (cap : Nat) (w : World) (hI : Ints w A zs) :
    Calls Try.prog 31 #[.int .i64 total, .slice A zs.length cap] w fun e w' =>
      ∃ v, e = .returned (.tuple #[v, .int .i64 (SM.splE total zs)]) ∧ Own w' w.heap.size v (SM.splN total zs) ∧ Below w.heap.size w w' := by
  have hlen := hI.len
  cases h1 : SM.inR total
  · obtain ⟨e1, e2⟩ := @SM.spl_arg total zs h1
    rw [e1, e2]; clear e1 e2
    go_enter Try.func31, Try.ntmps31
    go_wp2_with (go_at_call 52; refine (inrange_any _ _).mono ?_; rintro e w' ⟨rfl, rfl⟩)
    go_ret2
    exact ⟨_, rfl, Own.nil _ _, Below.refl _ _⟩
  · by_cases hlong : 1024 < zs.length
    · obtain ⟨e1, e2⟩ := @SM.spl_long total zs h1 hlong
      have e3 : SM.sN zs = 0 := by simp [SM.sN, hlong]
      have e4 : SM.sE zs = 8 := by simp [SM.sE, hlong]
      rw [e1, e2]; clear e1 e2
      go_enter Try.func31, Try.ntmps31
      go_wp2_with (first
        | (go_at_call 52; refine (inrange_any _ _).mono ?_; rintro e w' ⟨rfl, rfl⟩)
        | (go_at_call 53; refine (sumof_any _ _ _ _ hI).mono ?_; rintro e w' ⟨rfl, rfl⟩))
      go_ret2
      exact ⟨_, rfl, Own.nil _ _, Below.refl _ _⟩
    · cases hw : SM.wOk zs
      · obtain ⟨e1, e2⟩ := @SM.spl_weight total zs h1 hlong (.inl hw)
        have e3 : SM.sN zs = 0 := by simp [SM.sN, hlong, (SM.w_no hw).1]
        have e4 : SM.sE zs = 26 := by simp [SM.sE, hlong, (SM.w_no hw).2]
        rw [e1, e2]; clear e1 e2
        go_enter Try.func31, Try.ntmps31
        go_wp2_with (first
          | (go_at_call 52; refine (inrange_any _ _).mono ?_; rintro e w' ⟨rfl, rfl⟩)
          | (go_at_call 53; refine (sumof_any _ _ _ _ hI).mono ?_; rintro e w' ⟨rfl, rfl⟩))
        go_ret2
        exact ⟨_, rfl, Own.nil _ _, Below.refl _ _⟩
      · have e3 : SM.sN zs = LM.tot zs := by simp [SM.sN, hlong, (SM.w_yes hw).1]
        have e4 : SM.sE zs = 0 := by simp [SM.sE, hlong, (SM.w_yes hw).2]
        by_cases h0 : LM.tot zs = 0
        · obtain ⟨e1, e2⟩ := @SM.spl_weight total zs h1 hlong (.inr h0)
          rw [e1, e2]; clear e1 e2
          go_enter Try.func31, Try.ntmps31
          go_wp2_with (first
            | (go_at_call 52; refine (inrange_any _ _).mono ?_; rintro e w' ⟨rfl, rfl⟩)
            | (go_at_call 53; refine (sumof_any _ _ _ _ hI).mono ?_; rintro e w' ⟨rfl, rfl⟩))
          go_ret2
          exact ⟨_, rfl, Own.nil _ _, Below.refl _ _⟩
        · obtain ⟨e1, e2⟩ := @SM.spl_ok total zs h1 hlong hw h0
          rw [e1, e2]; clear e1 e2
          obtain ⟨hr, ht1⟩ := SM.wOk_parts hw
          have ht0 := SM.tot_nonneg hr
          have hz : (LM.tot zs == 0) = false := by simpa using h0
          obtain ⟨i1, i2⟩ := SM.inR_true.1 h1
          have CD := Lib.hid (divide2_any total (LM.tot zs) A zs cap w hI (by omega) hr rfl (by omega) ht1 i1 i2)
          have HL : zs.length ≤ maxLen := hI.1
          clear h0 hr
          go_enter Try.func31, Try.ntmps31
          go_wp2_with (first
            | (go_at_call 52; refine (inrange_any _ _).mono ?_; rintro e w' ⟨rfl, rfl⟩)
            | (go_at_call 53; refine (sumof_any _ _ _ _ hI).mono ?_; rintro e w' ⟨rfl, rfl⟩)
            | (go_at_call 54; refine CD.out.mono ?_; rintro e w1 ⟨g, rfl, hg, hrow, hb⟩))
          go_ret2
          refine ⟨_, rfl, ?_, hb⟩
          have := hrow.own hg (by rw [SM.parts_len]; exact HL)
          rw [SM.parts_len] at this
          exact this
end Go.Proofs.Ytgpdkidbmfngmaa
