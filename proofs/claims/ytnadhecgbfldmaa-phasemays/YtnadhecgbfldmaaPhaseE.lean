/- Contracts of layer 7: Acts and the reference's May. -/
import Derived.Test.YtnadhecgbfldmaaPhaseD
import Derived.Deep.AppendSrc
namespace Go.Proofs.Ytnadhecgbfldmaa
open Go.RowKit
set_option linter.unusedVariables false

set_option maxHeartbeats 1000000 in
theorem pacts_any (p : Int) (w : World) :
    Calls Try.prog 20 #[.int .i64 p] w fun e w' => ∃ v, e = .returned v ∧ Own w' w.heap.size v (PM.acts p) ∧ Below w.heap.size w w' := by
  have HA := Lib.hid (PM.upto_all p)
  have H1 := Lib.hid (PM.upto_one p)
  have HL := Lib.hid (PM.upto_len p)
  have HY := Lib.hid (fun k => @PM.upto_yes p k)
  have HN := Lib.hid (fun k => @PM.upto_no p k)
  generalize PM.acts p = zs at *
  go_enter Try.func20, Try.ntmps20
  go_wp2_with fail
  go_loopw [2, 3] (fun v i wr => ∃ k : Nat, 1 ≤ k ∧ k ≤ 11 ∧ i = .int .i64 k ∧ Own wr w.heap.size v (PM.upto p k) ∧ Below w.heap.size w wr) (fun _ i _ => 11 - (intOf i).toNat)
  case atStart => exact ⟨1, by omega, by omega, rfl, by rw [H1.out]; exact Own.nil _ _, Below.refl _ _⟩
  case round =>
    obtain ⟨k, k1, k2, rfl, hown, hB⟩ := hrel
    by_cases hlt : k ≤ 10
    · cases hm : PM.may p k
      · have HE := Lib.hid (HN.out k k1 hlt hm)
        go_wp2_with (go_at_call 23; refine (pmay_any _ _ _).mono ?_; rintro e w' ⟨rfl, rfl⟩)
        go_roundw
        case rel => exact ⟨k + 1, by omega, by omega, by go_num, by rw [HE.out]; exact hown, hB⟩
        case measure => simp [intOf]; omega
      · have HE := Lib.hid (HY.out k k1 hlt hm)
        have hl6 := HL.out k
        go_wp2_with (first | (go_at_call 23; refine (pmay_any _ _ _).mono ?_; rintro e w' ⟨rfl, rfl⟩) | (at_builtin; refine wpList_push _ (k : Int) w.heap.size _ _ _ rfl rfl _ rfl rfl hown ?c1 ?c2 ?_))
        case c1 => omega
        case c2 => exact hB.size
        intro v' w1 ho hb1 hs1 _
        clear hown
        go_wp2_with fail
        go_roundw
        case rel => exact ⟨k + 1, by omega, by omega, by go_num, by rw [HE.out]; exact ho, hB.trans hb1⟩
        case measure => simp [intOf]; omega
    · obtain rfl : k = 11 := by omega
      rw [HA.out] at hown
      go_wp2_with fail
      go_ret
      exact ⟨_, rfl, hown, hB⟩

theorem has_no {zs : List Int} {a : Int} (h : ∀ i, i < zs.length → zs.getD i 0 ≠ a) : zs.contains a = false := by
  cases e : zs.contains a
  · rfl
  · have : a ∈ zs := by simpa using e
    obtain ⟨i, hi, he⟩ := List.getElem_of_mem this
    exact absurd (by simpa [List.getD, hi] using he) (h i hi)
theorem has_yes {zs : List Int} {a : Int} {k : Nat} (hk : k < zs.length) (h : zs.getD k 0 = a) : zs.contains a = true := by
  have : a ∈ zs := by
    rw [← h]; simp [List.getD, hk]
  simpa using this

set_option maxHeartbeats 1000000 in
theorem rpmay_any (p a : Int) (w : World) :
    Calls Try.prog 24 #[.int .i64 p, .int .i64 a] w fun e w' => e = .returned (.bool (PM.may p a)) ∧ Below w.heap.size w w' := by
  generalize hv : PM.may p a = v
  have HV := Lib.hid hv
  unfold PM.may at HV
  clear hv
  have CA := Lib.hid (fun ww => racts_any p ww)
  have hl6 := PM.acts_len p
  generalize PM.acts p = zs at *
  go_enter Try.func24, Try.ntmps24
  go_wp2_with fail
  refine (CA.out _).mono ?_
  rintro e w1 ⟨⟨cap, rfl⟩, hI, hs, hb⟩
  have HB := Lib.hid hb
  have HS := Lib.hid hs
  clear hb hs
  go_wp2_with fail
  go_loop [6] (fun i => ∃ k : Nat, k ≤ zs.length ∧ i = .int .i64 k ∧ Hid (∀ j, j < k → zs.getD j 0 ≠ a)) (fun i => zs.length - (intOf i).toNat)
  case atStart => exact ⟨0, by omega, rfl, Lib.hid (fun j h => by omega)⟩
  case round =>
    obtain ⟨k, hk, rfl, HE⟩ := hrel
    by_cases hlt : k < zs.length
    · obtain ⟨b1, o1, x, hA, hb1, hc1, HX, x1, x2⟩ := hI.get hlt
      injection hA with hA
      injection hA with h1 h2
      subst h1 h2
      rw [Nat.zero_add] at hc1
      have HI := Lib.hid hI
      clear hI
      by_cases he : x = a
      · have HN := Lib.hid (@has_yes zs a k hlt (by rw [HX.out]; exact he))
        have hd : (x == a) = true := by simpa using he
        clear he
        go_wp2
        go_ret
        exact ⟨by rw [← HV.out, HN.out]; rfl, HB.out⟩
      · have HE2 : Hid (∀ j, j < k + 1 → zs.getD j 0 ≠ a) := Lib.hid (fun j hj => by
          rcases Nat.lt_or_ge j k with g | g
          · exact HE.out j g
          · obtain rfl : j = k := by omega
            rw [HX.out]; exact he)
        have hd : (x == a) = false := by simpa using he
        clear he
        go_wp2
        go_round
        case rel => exact ⟨k + 1, by omega, by go_num, HE2⟩
        case measure => simp [intOf]; omega
    · obtain rfl : k = zs.length := by omega
      have HN := Lib.hid (has_no HE.out)
      go_wp2
      go_ret
      exact ⟨by rw [← HV.out, HN.out]; rfl, HB.out⟩
end Go.Proofs.Ytnadhecgbfldmaa
