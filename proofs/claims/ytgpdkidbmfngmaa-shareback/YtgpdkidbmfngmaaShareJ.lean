import Derived.Test.YtgpdkidbmfngmaaCapE
namespace Go.Proofs.Ytgpdkidbmfngmaa
open Go.RowKit

theorem ints3 (x y z : Int) (w : World) (hx : -9223372036854775808 ≤ x ∧ x ≤ 9223372036854775807) (hy : -9223372036854775808 ≤ y ∧ y ≤ 9223372036854775807) (hz : -9223372036854775808 ≤ z ∧ z ≤ 9223372036854775807) :
    Ints (w.alloc (.cells #[.int .i64 x, .int .i64 y, .int .i64 z] 3)) (some ⟨w.heap.size, 0, none⟩) [x, y, z] := by
  refine ⟨by unfold maxLen; simp, by simp; omega, .inr ⟨_, _, rfl, by simp, fun i hi => ?_⟩⟩
  rw [Nat.zero_add]
  have : i = 0 ∨ i = 1 ∨ i = 2 := by simp at hi; omega
  rcases this with rfl | rfl | rfl <;> simp

theorem Ints.alloc {w : World} {A : Option Addr} {zs : List Int} (h : Ints w A zs) (o : Obj) : Ints (w.alloc o) A zs := h.below ((Below.refl _ _).alloc (Nat.le_refl _) _)

theorem ex_split : SM.splN 10 [1, 1, 1] = [4, 3, 3] ∧ SM.splE 10 [1, 1, 1] = 0 := by decide +kernel
theorem ex_cap : SM.capN 100 [1, 1, 2] [10, 50, 100] = [10, 30, 60] ∧ SM.capR 100 [1, 1, 2] [10, 50, 100] = 0 ∧ SM.capE 100 [1, 1, 2] [10, 50, 100] = 0 := by decide +kernel
theorem ex_back : SM.backN 7 [10, 10, 5] = [0, 2, 5] ∧ SM.backR 7 [10, 10, 5] = 0 ∧ SM.rowE 7 [10, 10, 5] = 0 := by decide +kernel

set_option maxHeartbeats 2000000 in
theorem goes2_any (w : World) : Calls Try.prog 29 #[] w fun e w' => e = .returned (.bool true) ∧ Below w.heap.size w w' := by
  have C1 : ∀ W : World, Calls Try.prog 31 #[.int .i64 10, .slice (some ⟨W.heap.size, 0, none⟩) 3 3] (W.alloc (.cells #[.int .i64 1, .int .i64 1, .int .i64 1] 3)) fun e w' =>
      ∃ A c, e = .returned (.tuple #[.slice A 3 c, .int .i64 0]) ∧ Ints w' A [4, 3, 3] ∧ Below W.heap.size W w' := fun W => by
    refine (split_any 10 _ [1, 1, 1] 3 _ (ints3 1 1 1 W (by omega) (by omega) (by omega))).mono ?_
    rintro e w' ⟨v, rfl, ho, hb⟩
    rw [ex_split.1] at ho
    rw [ex_split.2]
    obtain ⟨A, c, rfl, hI⟩ := ho.ints (by simp)
    exact ⟨A, c, rfl, hI, ((Below.refl _ _).alloc (Nat.le_refl _) _).trans (hb.mono (by simp))⟩
  have C2 : ∀ W : World, Calls Try.prog 37 #[.int .i64 100, .slice (some ⟨W.heap.size, 0, none⟩) 3 3, .slice (some ⟨W.heap.size + 1, 0, none⟩) 3 3]
      ((W.alloc (.cells #[.int .i64 1, .int .i64 1, .int .i64 2] 3)).alloc (.cells #[.int .i64 10, .int .i64 50, .int .i64 100] 3)) fun e w' =>
      ∃ A c, e = .returned (.tuple #[.slice A 3 c, .int .i64 0, .int .i64 0]) ∧ Ints w' A [10, 30, 60] ∧ Below W.heap.size W w' := fun W => by
    have hb0 := ints3 10 50 100 (W.alloc (.cells #[.int .i64 1, .int .i64 1, .int .i64 2] 3)) (by omega) (by omega) (by omega)
    simp only [World.size_alloc] at hb0
    refine (capped_any 100 _ _ [1, 1, 2] [10, 50, 100] 3 3 _ ((ints3 1 1 2 W (by omega) (by omega) (by omega)).alloc _) hb0).mono ?_
    rintro e w' ⟨v, rfl, ho, hb⟩
    rw [ex_cap.1] at ho
    rw [ex_cap.2.1, ex_cap.2.2]
    obtain ⟨A, c, rfl, hI⟩ := ho.ints (by simp)
    exact ⟨A, c, rfl, hI, (((Below.refl _ _).alloc (Nat.le_refl _) _).alloc (by simp) _).trans (hb.mono (by simp <;> omega))⟩
  have C3 : ∀ W : World, Calls Try.prog 41 #[.int .i64 7, .slice (some ⟨W.heap.size, 0, none⟩) 3 3] (W.alloc (.cells #[.int .i64 10, .int .i64 10, .int .i64 5] 3)) fun e w' =>
      ∃ A c, e = .returned (.tuple #[.slice A 3 c, .int .i64 0, .int .i64 0]) ∧ Ints w' A [0, 2, 5] ∧ Below W.heap.size W w' := fun W => by
    refine (back_any 7 _ [10, 10, 5] 3 _ (ints3 10 10 5 W (by omega) (by omega) (by omega))).mono ?_
    rintro e w' ⟨v, rfl, ho, hb⟩
    rw [ex_back.1] at ho
    rw [ex_back.2.1, ex_back.2.2]
    obtain ⟨A, c, rfl, hI⟩ := ho.ints (by simp)
    exact ⟨A, c, rfl, hI, ((Below.refl _ _).alloc (Nat.le_refl _) _).trans (hb.mono (by simp))⟩
  have C4 : ∀ (W : World) (A : Option Addr) (c : Nat) (x y z : Int), Ints W A [x, y, z] → Calls Try.prog 35 #[.slice A 3 c, .slice (some ⟨W.heap.size, 0, none⟩) 3 3] (W.alloc (.cells #[.int .i64 x, .int .i64 y, .int .i64 z] 3)) fun e w' =>
      e = .returned (.bool true) ∧ Below W.heap.size W w' := fun W A c x y z hI => by
    refine (same_any _ _ [x, y, z] c 3 _ (hI.alloc _) (ints3 x y z W (hI.2.1 x (by simp)) (hI.2.1 y (by simp)) (hI.2.1 z (by simp)))).mono ?_
    rintro e w' ⟨rfl, n, rfl⟩
    exact ⟨rfl, below_drewN ((Below.refl _ _).alloc (Nat.le_refl _) _) n⟩
  have H1 := Lib.hid C1; have H2 := Lib.hid C2; have H3 := Lib.hid C3; have H4 := Lib.hid C4
  clear C1 C2 C3 C4
  go_enter Try.func29, Try.ntmps29
  go_wp2_with fail
  refine (H1.out _).mono ?_
  rintro e w1 ⟨A1, c1, rfl, i1, b1⟩
  go_wp2_with fail
  refine (H2.out _).mono ?_
  rintro e w2 ⟨A2, c2, rfl, i2, b2⟩
  have i1 := i1.below b2
  have b2 := b1.trans (b2.mono b1.size)
  clear b1
  go_wp2_with fail
  refine (H3.out _).mono ?_
  rintro e w3 ⟨A3, c3, rfl, i3, b3⟩
  have i1 := i1.below b3
  have i2 := i2.below b3
  have b3 := b2.trans (b3.mono b2.size)
  clear b2
  go_wp2_with fail
  refine (H4.out _ _ _ _ _ _ i1).mono ?_
  rintro e w4 ⟨rfl, b4⟩
  have i2 := i2.below b4
  have i3 := i3.below b4
  have b4 := b3.trans (b4.mono b3.size)
  clear b3
  go_wp2_with fail
  refine (H4.out _ _ _ _ _ _ i2).mono ?_
  rintro e w5 ⟨rfl, b5⟩
  have i3 := i3.below b5
  have b5 := b4.trans (b5.mono b4.size)
  clear b4
  go_wp2_with fail
  refine (H4.out _ _ _ _ _ _ i3).mono ?_
  rintro e w6 ⟨rfl, b6⟩
  have b6 := b5.trans (b6.mono b5.size)
  clear b5
  go_wp2
  go_ret
  exact ⟨rfl, b6⟩
end Go.Proofs.Ytgpdkidbmfngmaa
