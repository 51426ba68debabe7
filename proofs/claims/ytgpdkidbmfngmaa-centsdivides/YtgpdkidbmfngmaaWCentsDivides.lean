import Derived.Test.YtgpdkidbmfngmaaCentsF
namespace Go.Proofs.Ytgpdkidbmfngmaa.centsDivides
open Go.RowKit
set_option linter.unusedVariables false

/-- block g holds three numbers -/
def Arr (w : World) (g : Nat) (x y z : Int) : Prop :=
  g < w.heap.size ∧ w.cell? ⟨g, 0, none⟩ = some (.int .i64 x) ∧ w.cell? ⟨g, 1, none⟩ = some (.int .i64 y) ∧ w.cell? ⟨g, 2, none⟩ = some (.int .i64 z)

theorem Arr.below {w w' : World} {g : Nat} {x y z : Int} (h : Arr w g x y z) (hb : Below w.heap.size w w') : Arr w' g x y z :=
  ⟨Nat.lt_of_lt_of_le h.1 hb.size, (hb.cell (p := ⟨g, 0, none⟩) h.1).trans h.2.1, (hb.cell (p := ⟨g, 1, none⟩) h.1).trans h.2.2.1, (hb.cell (p := ⟨g, 2, none⟩) h.1).trans h.2.2.2⟩

theorem Arr.new (w : World) (x y z : Int) : Arr (w.alloc (.cells #[.int .i64 x, .int .i64 y, .int .i64 z] 35)) w.heap.size x y z := by
  refine ⟨by simp, ?_, ?_, ?_⟩ <;> simp

set_option maxHeartbeats 1000000 in
theorem walk (x y z mode : Int) (w : World) (w0 : -9223372036854775808 ≤ x ∧ x ≤ 9223372036854775807) (w1 : -9223372036854775808 ≤ mode ∧ mode ≤ 9223372036854775807) :
    Calls Try.prog 5 #[.agg #[.int .i64 x, .int .i64 y, .int .i64 z], .int .i64 mode] w fun e w' => e = .returned (.bool true) ∧ Below w.heap.size w w' := by
  clear w0 w1
  have hA := Arr.new w x y z
  have hB : Below w.heap.size w (w.alloc (.cells #[.int .i64 x, .int .i64 y, .int .i64 z] 35)) := (Below.refl _ _).alloc (Nat.le_refl _) _
  go_enter Try.func5, Try.ntmps5
  go_wp2_with fail
  refine (muldiv_any _ _ _ _ _).mono ?_
  rintro e w1 ⟨rfl, hb1⟩
  have hB1 := hB.trans (hb1.mono hB.size)
  have hA1 := hA.below hb1
  clear hA hB hb1
  obtain ⟨_, c0, c1, c2⟩ := hA1
  go_wp2_with fail
  refine (rmuldiv_any _ _ _ _ _).mono ?_
  rintro e w2 ⟨rfl, rfl⟩
  go_wp2_with fail
  have hA1 : Arr w1 w.heap.size x y z := ⟨by assumption, c0, c1, c2⟩
  clear c0 c1 c2
  go_loopw [9] (fun i wr => ∃ k : Int, 1 ≤ k ∧ k ≤ 6 ∧ i = .int .i64 k ∧ Below w.heap.size w wr ∧ Arr wr w.heap.size x y z) (fun i _ => (6 - intOf i).toNat)
  case atStart => exact ⟨1, by omega, by omega, rfl, hB1, hA1⟩
  case round =>
    clear hA1 hB1
    obtain ⟨k, k1, k6, rfl, hB1, hA1⟩ := hrel
    by_cases hk : k ≤ 5
    · obtain ⟨hg, c0, c1, c2⟩ := id hA1
      go_wp2_with fail
      refine (muldiv_any _ _ _ _ _).mono ?_
      rintro e w2 ⟨rfl, hb2⟩
      have hB2 := hB1.trans (hb2.mono hB1.size)
      have hA2 := hA1.below hb2
      clear hA1 hB1 hb2 hg c0 c1 c2
      obtain ⟨hg, c0, c1, c2⟩ := id hA2
      go_wp2_with fail
      refine (rmuldiv_any _ _ _ _ _).mono ?_
      rintro e w3 ⟨rfl, rfl⟩
      go_wp2
      go_roundw
      case rel => exact ⟨k + 1, by omega, by omega, rfl, hB2, hA2⟩
      case measure => simp [intOf]; omega
    · go_wp2_with fail
      refine (goes1_any _).mono ?_
      rintro e w2 ⟨rfl, hb2⟩
      go_wp2
      go_ret
      exact ⟨rfl, hB1.trans (hb2.mono hB1.size)⟩
end Go.Proofs.Ytgpdkidbmfngmaa.centsDivides
