import Derived.Test.YthahfcehfagepaaWorkI
import Derived.Test.YthahfcehfagepaaWorkMath4
namespace Go.Proofs.Ythahfcehfagepaa.workdayCounts
open Go.RowKit
set_option linter.unusedVariables false

/-- block g holds three numbers -/
def Arr (w : World) (g : Nat) (x y z : Int) : Prop :=
  g < w.heap.size ∧ w.cell? ⟨g, 0, none⟩ = some (.int .i64 x) ∧ w.cell? ⟨g, 1, none⟩ = some (.int .i64 y) ∧ w.cell? ⟨g, 2, none⟩ = some (.int .i64 z)
theorem Arr.below {w w' : World} {g : Nat} {x y z : Int} (h : Arr w g x y z) (hb : Below w.heap.size w w') : Arr w' g x y z :=
  ⟨Nat.lt_of_lt_of_le h.1 hb.size, (hb.cell (p := ⟨g, 0, none⟩) h.1).trans h.2.1, (hb.cell (p := ⟨g, 1, none⟩) h.1).trans h.2.2.1, (hb.cell (p := ⟨g, 2, none⟩) h.1).trans h.2.2.2⟩
theorem Arr.new (w : World) (x y z : Int) : Arr (w.alloc (.cells #[.int .i64 x, .int .i64 y, .int .i64 z] 61)) w.heap.size x y z := by
  refine ⟨by simp, ?_, ?_, ?_⟩ <;> simp

/-- what the three counts are -/
def Three (e1 e2 e3 a b c d0 d1 d2 : Int) : Prop :=
  (e1 == 0) = false ∨ ((e1 == 0) = true ∧ (e2 == 0) = false) ∨ ((e1 == 0) = true ∧ (e2 == 0) = true ∧ (e3 == 0) = false) ∨
  ((e1 == 0) = true ∧ (e2 == 0) = true ∧ (e3 == 0) = true ∧ decide (d0 ≤ d1) = false) ∨ ((e1 == 0) = true ∧ (e2 == 0) = true ∧ (e3 == 0) = true ∧ decide (d0 ≤ d1) = true ∧ decide (d1 < d2) = false) ∨
  ((e1 == 0) = true ∧ (e2 == 0) = true ∧ (e3 == 0) = true ∧ decide (d0 ≤ d1) = true ∧ decide (d1 < d2) = true ∧ (a + b != c) = false)
theorem three {e1 e2 e3 a b c d0 d1 d2 : Int} (h : e1 = 0 → e2 = 0 → e3 = 0 → d0 ≤ d1 → d1 < d2 → a + b = c) : Three e1 e2 e3 a b c d0 d1 d2 := by
  unfold Three
  by_cases h1 : e1 = 0
  · by_cases h2 : e2 = 0
    · by_cases h3 : e3 = 0
      · by_cases h4 : d0 ≤ d1
        · by_cases h5 : d1 < d2
          · exact .inr (.inr (.inr (.inr (.inr ⟨beq_t h1, beq_t h2, beq_t h3, decide_eq_true h4, decide_eq_true h5, by simp [h h1 h2 h3 h4 h5]⟩))))
          · exact .inr (.inr (.inr (.inr (.inl ⟨beq_t h1, beq_t h2, beq_t h3, decide_eq_true h4, decide_eq_false h5⟩))))
        · exact .inr (.inr (.inr (.inl ⟨beq_t h1, beq_t h2, beq_t h3, decide_eq_false h4⟩)))
      · exact .inr (.inr (.inl ⟨beq_t h1, beq_t h2, beq_f h3⟩))
    · exact .inr (.inl ⟨beq_t h1, beq_f h2⟩)
  · exact .inl (beq_f h1)

set_option maxHeartbeats 8000000 in
set_option maxRecDepth 100000 in
theorem steps (A : Option Addr) (cap : Nat) (zs : List Int) (d0 d1 d2 d1' n a b c e1 e2 e3 x h y i : Int) (w : World) (HI : Hid (Ints w A zs)) (hd1 : wrap64 (d1 + 1) = d1') (n0 : 0 ≤ n) (n1 : n ≤ 255)
    (ra : 0 ≤ a ∧ a ≤ 73049) (rb : 0 ≤ b ∧ b ≤ 73049) (HT : Three e1 e2 e3 a b c d0 d1 d2)
    (C1 : Hid (∀ ww, Ints ww A zs → Calls Try.prog 47 #[.slice A zs.length cap, .int .i64 d0, .int .i64 d1] ww fun e w' => e = .returned (.tuple #[.int .i64 a, .int .i64 e1]) ∧ ww = w'))
    (C2 : Hid (∀ ww, Ints ww A zs → Calls Try.prog 47 #[.slice A zs.length cap, .int .i64 d1', .int .i64 d2] ww fun e w' => e = .returned (.tuple #[.int .i64 b, .int .i64 e2]) ∧ ww = w'))
    (C3 : Hid (∀ ww, Ints ww A zs → Calls Try.prog 47 #[.slice A zs.length cap, .int .i64 d0, .int .i64 d2] ww fun e w' => e = .returned (.tuple #[.int .i64 c, .int .i64 e3]) ∧ ww = w'))
    (C4 : Hid (∀ ww, Ints ww A zs → Calls Try.prog 45 #[.slice A zs.length cap, .int .i64 d0, .int .i64 n] ww fun e w' => e = .returned (.tuple #[.int .i64 x, .int .i64 h]) ∧ Below ww.heap.size ww w'))
    (HE : (h != 0) = true ∨ (h = 0 ∧ n = 0) ∨ (h = 0 ∧ (n == 0) = false ∧ y = n ∧ i = 0 ∧ 0 ≤ d0 ∧ d0 ≤ 73048 ∧ Hid (∀ ww, Ints ww A zs → Calls Try.prog 47 #[.slice A zs.length cap, .int .i64 (d0 + 1), .int .i64 x] ww fun e w' => e = .returned (.tuple #[.int .i64 y, .int .i64 i]) ∧ ww = w'))) :
    Calls Try.prog 13 #[.slice A zs.length cap, .agg #[.int .i64 d0, .int .i64 d1, .int .i64 d2], .int .u8 n] w fun e w' => e = .returned (.bool true) ∧ Below w.heap.size w w' := by
  have hA := Arr.new w d0 d1 d2
  have HB : Hid (Below w.heap.size w (w.alloc (.cells #[.int .i64 d0, .int .i64 d1, .int .i64 d2] 61))) := Lib.hid ((Below.refl _ _).alloc (Nat.le_refl _) _)
  have HI0 := Lib.hid (HI.out.below HB.out)
  have HA := Lib.hid hA
  obtain ⟨hlt, c0, c1, c2⟩ := hA
  obtain ⟨ra1, ra2⟩ := ra
  obtain ⟨rb1, rb2⟩ := rb
  unfold Three at HT
  rcases HT with k1 | ⟨k1, k2⟩ | ⟨k1, k2, k3⟩ | ⟨k1, k2, k3, k4⟩ | ⟨k1, k2, k3, k4, k5⟩ | ⟨k1, k2, k3, k4, k5, k6⟩
  all_goals
    go_enter Try.func13, Try.ntmps13
    go_wp2_with fail
    refine (C1.out _ HI0.out).mono ?_
    rintro e w1 ⟨rfl, rfl⟩
    go_wp2_with fail
    refine (C2.out _ HI0.out).mono ?_
    rintro e w1 ⟨rfl, rfl⟩
    go_wp2_with fail
    refine (C3.out _ HI0.out).mono ?_
    rintro e w1 ⟨rfl, rfl⟩
    go_wp2_with fail
    refine (C4.out _ HI0.out).mono ?_
    rintro e w1 ⟨rfl, b1⟩
    have HA1 := Lib.hid (HA.out.below b1)
    have HB1 := Lib.hid (HB.out.trans (b1.mono HB.out.size))
    have HI1 := Lib.hid (HI0.out.below b1)
    clear b1 c0 c1 c2 hlt
    obtain ⟨hlt, c0, c1, c2⟩ := HA1.out
    clear HA1 HA HB HI0
    rcases HE with hE | ⟨hE1, hE2⟩ | ⟨hE1, hE2, hE3, hE4, q0, q1, HC⟩
    · go_wp2_with fail
      refine (goes6_any _).mono ?_
      rintro e w2 ⟨rfl, b2⟩
      have HB2 := Lib.hid (HB1.out.trans (b2.mono HB1.out.size))
      clear b2
      go_wp2
      go_ret
      exact ⟨rfl, HB2.out⟩
    · subst hE1 hE2
      go_wp2_with fail
      refine (goes6_any _).mono ?_
      rintro e w2 ⟨rfl, b2⟩
      have HB2 := Lib.hid (HB1.out.trans (b2.mono HB1.out.size))
      clear b2
      go_wp2
      go_ret
      exact ⟨rfl, HB2.out⟩
    · subst hE1 hE3 hE4
      go_wp2_with fail
      refine (HC.out _ HI1.out).mono ?_
      rintro e w2 ⟨rfl, rfl⟩
      go_wp2_with fail
      refine (goes6_any _).mono ?_
      rintro e w2 ⟨rfl, b2⟩
      have HB2 := Lib.hid (HB1.out.trans (b2.mono HB1.out.size))
      clear b2
      go_wp2
      go_ret
      exact ⟨rfl, HB2.out⟩

theorem walk (A : Option Addr) (cap : Nat) (zs : List Int) (d0 d1 d2 n : Int) (w : World) (hI : Ints w A zs) (w1 : (-9223372036854775808 ≤ d0 ∧ d0 ≤ 9223372036854775807) ∧ (-9223372036854775808 ≤ d1 ∧ d1 ≤ 9223372036854775807) ∧ (-9223372036854775808 ≤ d2 ∧ d2 ≤ 9223372036854775807)) (w2 : 0 ≤ n ∧ n ≤ 255) :
    Calls Try.prog 13 #[.slice A zs.length cap, .agg #[.int .i64 d0, .int .i64 d1, .int .i64 d2], .int .u8 n] w fun e w' => e = .returned (.bool true) ∧ Below w.heap.size w w' := by
  refine steps A cap zs d0 d1 d2 (wrap64 (d1 + 1)) n (KM.coN zs d0 d1) (KM.coN zs (wrap64 (d1 + 1)) d2) (KM.coN zs d0 d2) (KM.coE zs d0 d1) (KM.coE zs (wrap64 (d1 + 1)) d2) (KM.coE zs d0 d2) (KM.adN zs d0 n) (KM.adE zs d0 n) (KM.coN zs (d0 + 1) (KM.adN zs d0 n)) (KM.coE zs (d0 + 1) (KM.adN zs d0 n)) w (Lib.hid hI) rfl w2.1 w2.2
    (KM.co_range _ _ _) (KM.co_range _ _ _) (three ?_) (Lib.hid fun ww h => count_any A zs cap d0 d1 ww h) (Lib.hid fun ww h => count_any A zs cap (wrap64 (d1 + 1)) d2 ww h) (Lib.hid fun ww h => count_any A zs cap d0 d2 ww h)
    (Lib.hid fun ww h => add6_any A zs cap d0 n ww h (by omega) (by omega)) ?_
  · intro g1 g2 g3 g4 g5
    obtain ⟨_, _, kb⟩ := KM.co_zero g1
    obtain ⟨b0, b1⟩ := DM.isd_of kb
    have e : wrap64 (d1 + 1) = d1 + 1 := by unfold wrap64; omega
    rw [e] at g2 ⊢
    exact KM.co_side g1 g2 g3 g4 g5
  · by_cases hh : KM.adE zs d0 n = 0
    · by_cases hn : n = 0
      · exact .inr (.inl ⟨hh, hn⟩)
      · obtain ⟨k1, k2, k3, k4⟩ := KM.add_count (zs := zs) (day := d0) (n := n) (by omega) hh
        exact .inr (.inr ⟨hh, beq_f hn, k1, k2, k3, k4, Lib.hid fun ww h => count_any A zs cap (d0 + 1) (KM.adN zs d0 n) ww h⟩)
    · exact .inl (bne0 hh)
end Go.Proofs.Ythahfcehfagepaa.workdayCounts
