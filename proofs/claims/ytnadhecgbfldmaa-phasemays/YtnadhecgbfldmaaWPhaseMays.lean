import Derived.Test.YtnadhecgbfldmaaPhaseF
import Derived.Test.YtnadhecgbfldmaaMade
namespace Go.Proofs.Ytnadhecgbfldmaa.phaseMays
open Go.RowKit
set_option linter.unusedVariables false

theorem ints_far {w : World} {g : Nat} {zs : List Int} (h : Ints w (some ⟨g, 0, none⟩) zs) {p : Addr} (hp : g ≠ p.block) (u : Value) : Ints (w.setCell p u) (some ⟨g, 0, none⟩) zs := by
  obtain ⟨h1, h2, h3⟩ := h
  refine ⟨h1, h2, ?_⟩
  rcases h3 with h3 | ⟨b, o, e, hb, hc⟩
  · exact .inl h3
  · injection e with e
    injection e with e1 e2
    subst e1 e2
    refine .inr ⟨_, _, rfl, by simpa using hb, fun i hi => ?_⟩
    have := hc i hi
    unfold World.cell? at this ⊢
    rw [Below.heap_setCell w p u _ hp]
    exact this

set_option maxHeartbeats 2000000 in
theorem walk (p a : Int) (w : World) (hp : -9223372036854775808 ≤ p ∧ p ≤ 9223372036854775807) (ha : -9223372036854775808 ≤ a ∧ a ≤ 9223372036854775807) :
    Calls Try.prog 4 #[.int .i64 p, .int .i64 a] w fun e w' => e = .returned (.bool true) ∧ Below w.heap.size w w' := by
  have C1 := Lib.hid (fun ww => pacts_any p ww)
  have C2 := Lib.hid (fun ww => racts_any p ww)
  have C3 := Lib.hid (fun ww => pmay_any p a ww)
  have C4 := Lib.hid (fun ww => rpmay_any p a ww)
  have hl6 := PM.acts_len p
  have HR := Lib.hid (acts_in p)
  generalize PM.may p a = m at *
  generalize PM.acts p = zs at *
  clear hp ha
  have hzz : (zs == zs) = true := by simp
  go_enter Try.func4, Try.ntmps4
  go_wp2_with fail
  refine (C1.out _).mono ?_
  rintro e w1 ⟨v, rfl, hown, b1⟩
  obtain ⟨A, cap, rfl, hI⟩ := hown.ints HR.out
  have HA : Hid (∀ g o, A = some ⟨g, o, none⟩ → o = 0 ∧ w.heap.size ≤ g ∧ g < w1.heap.size) := Lib.hid (fun g o e => by
    rcases hown.form with ⟨h0, _⟩ | ⟨g', c', h0, h1, h2, _⟩
    · injection h0 with h0; rw [e] at h0; cases h0
    · injection h0 with h0; rw [e] at h0; injection h0 with h0; injection h0 with h3 h4; subst h3 h4; exact ⟨rfl, h1, h2⟩)
  have HO1 := Lib.hid hown
  have HB1 := Lib.hid b1
  clear hown b1
  go_wp2_with fail
  refine (C2.out _).mono ?_
  rintro e w2 ⟨⟨cap2, rfl⟩, hJ, hs, b2⟩
  have hg : ∃ g, g = w1.heap.size := ⟨_, rfl⟩
  obtain ⟨gw, hg⟩ := hg
  rw [← hg] at hJ hs HA ⊢
  have HB2 : Hid (Below w.heap.size w w2) := Lib.hid (HB1.out.trans (b2.mono HB1.out.size))
  have HO2 : Hid (Own w2 w.heap.size (.slice A zs.length cap) zs) := Lib.hid (HO1.out.below b2)
  have hI2 : Ints w2 A zs := hI.below b2
  clear hI b2 HO1 HB1 C2 hg
  go_wp2_with fail
  refine (same_any _ _ _ _ _ _ _ hI2 hJ).mono ?_
  rintro e w3 ⟨rfl, n, hw3⟩
  rw [hzz]
  have HB3 : Hid (Below w.heap.size w w3) := Lib.hid (by rw [hw3]; exact below_drewN HB2.out n)
  have HO3 : Hid (Own w3 w.heap.size (.slice A zs.length cap) zs) := Lib.hid (by rw [hw3]; exact HO2.out.drewN n)
  have HJ3 : Hid (Ints w3 (some ⟨gw, 0, none⟩) zs) := Lib.hid (by rw [hw3]; exact hJ.drewN n)
  have hs3 : gw < w3.heap.size := by rw [hw3]; exact hs
  clear hw3 hJ hI2 HB2 HO2 hs
  go_wp2_with fail
  refine (C3.out _).mono ?_
  rintro e w3' ⟨rfl, rfl⟩
  go_wp2_with fail
  refine (C4.out _).mono ?_
  rintro e w4 ⟨rfl, b4⟩
  have HB4 : Hid (Below w.heap.size w w4) := Lib.hid (HB3.out.trans (b4.mono HB3.out.size))
  have HO4 : Hid (Own w4 w.heap.size (.slice A zs.length cap) zs) := Lib.hid (HO3.out.below b4)
  have HJ4 : Hid (Ints w4 (some ⟨gw, 0, none⟩) zs) := Lib.hid (HJ3.out.below b4)
  have hs4 : gw < w4.heap.size := Nat.lt_of_lt_of_le hs3 b4.size
  clear b4 HB3 HO3 HJ3 hs3
  go_wp2_with fail
  go_loopw [7, 27] (fun _ i wr => ∃ k : Nat, k ≤ zs.length ∧ i = .int .i64 k ∧ (∃ ys : List Int, ys.length = zs.length ∧ Own wr w.heap.size (.slice A zs.length cap) ys) ∧ Ints wr (some ⟨gw, 0, none⟩) zs ∧ Below w.heap.size w wr) (fun _ i _ => zs.length - (intOf i).toNat)
  case atStart => exact ⟨0, by omega, rfl, ⟨zs, rfl, HO4.out⟩, HJ4.out, HB4.out⟩
  case round =>
    obtain ⟨k, hk, rfl, ⟨ys, hy, ho⟩, hJ, hB⟩ := hrel
    clear HO4 HJ4 HB4
    by_cases hlt : k < zs.length
    · have hf : ∃ g, A = some ⟨g, 0, none⟩ := by
        rcases ho.form with ⟨h0, h1⟩ | ⟨g', c', h0, h1, h2, _⟩
        · subst h1; simp at hy; omega
        · injection h0 with h0; exact ⟨g', h0⟩
      obtain ⟨g, rfl⟩ := hf
      obtain ⟨-, g1, g2⟩ := HA.out g 0 rfl
      have hcell := ho.cell k (by omega)
      have hfr := ho.frozen k
      have HO := Lib.hid (ho.set_ k 99)
      have HJ := Lib.hid (ints_far hJ (p := ⟨g, k, none⟩) (by simp; omega) (.int .i64 99))
      have HB := Lib.hid (hB.setCell (p := ⟨g, k, none⟩) g1 (.int .i64 99))
      have HY := Lib.hid hy
      clear ho hJ hB hy
      go_wp2_with fail
      go_roundw
      case rel => exact ⟨k + 1, by omega, by go_num, ⟨_, by rw [List.length_set]; exact HY.out, HO.out⟩, HJ.out, HB.out⟩
      case measure => simp [intOf]; omega
    · obtain rfl : k = zs.length := by omega
      have HB := Lib.hid hB
      have HJ := Lib.hid hJ
      clear hB hJ ho hy
      go_wp2_with fail
      refine (C1.out _).mono ?_
      rintro e w5 ⟨v, rfl, hown, b5⟩
      obtain ⟨A2, cap3, rfl, hI⟩ := hown.ints HR.out
      have HB5 := Lib.hid (HB.out.trans (b5.mono HB.out.size))
      have hJ5 := HJ.out.below b5
      clear b5 hown
      go_wp2_with fail
      refine (same_any _ _ _ _ _ _ _ hI hJ5).mono ?_
      rintro e w6 ⟨rfl, n, hw6⟩
      rw [hzz]
      have HB6 : Hid (Below w.heap.size w w6) := Lib.hid (by rw [hw6]; exact below_drewN HB5.out n)
      clear hw6 hJ5 hI
      go_wp2_with fail
      refine (goes7_any _).mono ?_
      rintro e w7 ⟨rfl, b7⟩
      have HB7 := Lib.hid (HB6.out.trans (b7.mono HB6.out.size))
      clear b7
      go_wp2_with fail
      go_ret
      exact ⟨rfl, HB7.out⟩
end Go.Proofs.Ytnadhecgbfldmaa.phaseMays
