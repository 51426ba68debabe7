import Derived.Test.YtgpdkidbmfngmaaCapC
namespace Go.Proofs.Ytgpdkidbmfngmaa
open Go.RowKit

theorem sE_cases (zs : List Int) (h : SM.sE zs ≠ 0) (total : Int) (caps : List Int) (h1 : SM.inR total = true) : SM.capE total zs caps = SM.sE zs := by simp [SM.capE, h1, h]

set_option maxHeartbeats 1000000 in
theorem capped_any (total : Int) (A C : Option Addr) (zs caps : List Int) (ca cc : Nat) (w : World) (hA : Ints w A zs) (hC : Ints w C caps) :
    Calls Try.prog 37 #[.int .i64 total, .slice A zs.length ca, .slice C caps.length cc] w fun e w' =>
      ∃ v, e = .returned (.tuple #[v, .int .i64 (SM.capR total zs caps), .int .i64 (SM.capE total zs caps)]) ∧ Own w' w.heap.size v (SM.capN total zs caps) ∧ Below w.heap.size w w' := by
  have hlA := hA.len
  have hlC := hC.len
  by_cases hE : SM.capE total zs caps = 0
  · rw [hE]; exact capped_ok total A C zs caps ca cc w hA hC hE
  · obtain ⟨n1, n2⟩ := SM.cap_no hE
    rw [n1, n2]
    clear n1 n2
    cases h1 : SM.inR total
    · have e1 : SM.capE total zs caps = 2 := by simp [SM.capE, h1]
      rw [e1]; clear e1 hE
      go_enter Try.func37, Try.ntmps37
      go_wp2_with (go_at_call 52; refine (inrange_any _ _).mono ?_; rintro e w' ⟨rfl, rfl⟩)
      go_ret3
      exact ⟨_, rfl, Own.nil _ _, Below.refl _ _⟩
    · by_cases h2 : SM.sE zs = 0
      · have e1 : SM.capE total zs caps = 2 := by
          unfold SM.capE at hE ⊢
          simp only [h1, h2, if_true] at hE ⊢
          by_cases h3 : caps.length = zs.length ∧ SM.allR caps = true
          · simp [h3] at hE
          · simp [h3]
        by_cases h3 : caps.length = zs.length
        · have h4 : SM.allR caps = false := by
            cases hc : SM.allR caps
            · rfl
            · simp [SM.capE, h1, h2, h3, hc] at hE
          rw [e1]; clear e1 hE
          have CA := allinrange_any C caps cc w hC
          rw [h3] at CA ⊢
          have HCA2 := Lib.hid CA
          clear CA h3
          go_enter Try.func37, Try.ntmps37
          go_wp2_with (first
            | (go_at_call 52; refine (inrange_any _ _).mono ?_; rintro e w' ⟨rfl, rfl⟩)
            | (go_at_call 53; refine (sumof_any _ _ _ _ hA).mono ?_; rintro e w' ⟨rfl, rfl⟩)
            | (go_at_call 57; refine HCA2.out.mono ?_; rintro e w' ⟨rfl, rfl⟩))
          go_ret3
          exact ⟨_, rfl, Own.nil _ _, Below.refl _ _⟩
        · rw [e1]; clear e1 hE
          have h3' : ((caps.length : Int) != (zs.length : Int)) = true := by rw [bne_iff_ne]; omega
          clear h3
          go_enter Try.func37, Try.ntmps37
          go_wp2_with (first
            | (go_at_call 52; refine (inrange_any _ _).mono ?_; rintro e w' ⟨rfl, rfl⟩)
            | (go_at_call 53; refine (sumof_any _ _ _ _ hA).mono ?_; rintro e w' ⟨rfl, rfl⟩))
          go_ret3
          exact ⟨_, rfl, Own.nil _ _, Below.refl _ _⟩
      · rw [sE_cases zs h2 total caps h1]
        have h2' : (SM.sE zs != 0) = true := by simpa using h2
        clear hE h2
        go_enter Try.func37, Try.ntmps37
        go_wp2_with (first
          | (go_at_call 52; refine (inrange_any _ _).mono ?_; rintro e w' ⟨rfl, rfl⟩)
          | (go_at_call 53; refine (sumof_any _ _ _ _ hA).mono ?_; rintro e w' ⟨rfl, rfl⟩))
        go_ret3
        exact ⟨_, rfl, Own.nil _ _, Below.refl _ _⟩
end Go.Proofs.Ytgpdkidbmfngmaa
