/- Contracts of layer 11: Check of one member, of all; the reference's Check. -/
import Derived.Test.YtlnllbcpbohahaaMemB
import Derived.Deep.QuietTactic
namespace Go.Proofs.Ytlnllbcpbohahaa
open Go.RowKit Go.Recs
set_option linter.unusedVariables false
set_option linter.unusedSimpArgs false

def accsE (l : List MM.Ac) : Int := if 16 < l.length then 8 else MM.accE MM.nil l

set_option maxHeartbeats 4000000 in
theorem raccs_any (A : Option Addr) (l : List MM.Ac) (cap : Nat) (w : World) (hI : Accs w A l) :
    Calls Try.prog 29 #[.slice A l.length cap] w fun e w' => e = .returned (.int .i64 (accsE l)) ∧ Below w.heap.size w w' := by
  have hlen : l.length ≤ 9223372036854775807 := hI.len
  by_cases h16 : 16 < l.length
  · rw [show accsE l = 8 from if_pos h16]
    clear hI
    go_enter Try.func29, Try.ntmps29
    go_wp2
    go_ret
    exact ⟨rfl, Below.refl _ _⟩
  rw [show accsE l = MM.accE MM.nil l from if_neg h16]
  have K0 := Lib.hid (fun k => @drop_acc l k)
  have HE0 : Hid (MM.accE MM.nil l = MM.accE MM.nil (l.drop 0)) := Lib.hid (by rw [List.drop_zero])
  have HZ : Hid (∀ p, MM.accE p (l.drop l.length) = 0) := Lib.hid (fun p => by rw [List.drop_length]; rfl)
  generalize MM.accE MM.nil l = r at *
  have HI := Lib.hid hI
  clear hI
  go_enter Try.func29, Try.ntmps29
  go_wp2
  go_loopw [3] (fun i wr => ∃ k : Nat, ∃ p : ByteArray, k ≤ l.length ∧ i = .int .i64 k ∧ Hid (r = MM.accE p (l.drop k)) ∧ Hid (k = 0 → p = MM.nil) ∧ Hid (∀ j, k = j + 1 → p = (aAt l j).name) ∧ Hid (Below w.heap.size w wr)) (fun i _ => l.length - (intOf i).toNat)
  case atStart => exact ⟨0, MM.nil, by omega, rfl, HE0, Lib.hid (fun _ => rfl), Lib.hid (fun j h => by omega), Lib.hid (Below.refl _ _)⟩
  case round =>
    obtain ⟨k, p, hk, rfl, HE, HP0, HP1, HB⟩ := hrel
    by_cases hlt : k < l.length
    · obtain ⟨b, off, a, rfl, hb, HV, ⟨q1, q2⟩, d0, d1⟩ := accs_get (HI.out.below HB.out) hlt
      have HD := Lib.hid (K0.out k hlt)
      rw [HV.out] at HD
      have C0 := Lib.hid (fun ww => rname_any a.name ww q1)
      have K1 := Lib.hid (@MM.acc_name p a (l.drop (k + 1))); have K2 := Lib.hid (@MM.acc_le p a (l.drop (k + 1))); have K3 := Lib.hid (@MM.acc_kind p a (l.drop (k + 1))); have K4 := Lib.hid (@MM.acc_next p a (l.drop (k + 1)))
      rw [← HD.out] at K1 K2 K3 K4
      rw [← HE.out] at K1 K2 K3 K4
      have KOK := Lib.hid (@MM.ok_le a.name)
      have eN : MM.okN a.name = WM.name (L a.name) := rfl
      rw [eN] at K1 K2 K3 K4 KOK
      generalize WM.name (L a.name) = b0 at *
      have HV2 : Hid (∀ j, k + 1 = j + 1 → a.name = (aAt l j).name) := Lib.hid (fun j hj => by
        obtain rfl : k = j := by omega
        rw [HV.out])
      clear q1 q2 eN HD
      go_wp2_with fail
      refine (C0.out _).mono ?_
      rintro e w1 ⟨rfl, rfl⟩
      cases b0
      · have HX := Lib.hid (K1.out (by trivial))
        go_wp2_with fail
        go_ret
        exact ⟨by rw [HX.out] <;> rfl, HB.out⟩
      have hkk : k = 0 ∨ ∃ j, k = j + 1 := by
        cases k with
        | zero => exact .inl rfl
        | succ j => exact .inr ⟨j, rfl⟩
      have hkd : MM.kindOk a.kind = true ∧ (1 ≤ a.kind ∧ a.kind ≤ 3) ∨ MM.kindOk a.kind = false ∧ (a.kind < 1 ∨ (1 ≤ a.kind ∧ 3 < a.kind)) := by
        unfold MM.kindOk
        by_cases g1 : 1 ≤ a.kind <;> by_cases g2 : a.kind ≤ 3 <;> simp [g1, g2] <;> omega
      generalize MM.kindOk a.kind = b1 at *
      rcases hkk with rfl | ⟨j, rfl⟩
      · obtain rfl := HP0.out rfl
        have hl := KOK.out (by trivial)
        rcases hkd with ⟨rfl, g1, g2⟩ | ⟨rfl, g | ⟨g1, g2⟩⟩
        · have HX := Lib.hid (K4.out (by trivial) hl (by trivial))
          clear hl
          go_wp2_with fail
          go_quiet (fail)
          go_wp2_with fail
          go_roundw
          case rel => exact ⟨1, a.name, by omega, by go_num, HX, Lib.hid (fun h => by omega), HV2, Lib.hid (by first | exact HB.out | exact below_drewN HB.out _)⟩
          case measure => simp [intOf]; omega
        all_goals (
          have HX := Lib.hid (K3.out (by trivial) hl (by trivial))
          clear hl
          go_wp2_with fail
          go_quiet (fail)
          go_wp2_with fail
          go_ret
          exact ⟨by rw [HX.out] <;> rfl, by first | exact HB.out | exact below_drewN HB.out _⟩)
      · have HPV := Lib.hid (HP1.out j rfl)
        obtain ⟨b', off', a', e', hb', HV', ⟨q1', q2'⟩, d0', d1'⟩ := accs_get (HI.out.below HB.out) (show j < l.length by omega)
        injection e' with e'
        injection e' with e1 e2
        subst e1 e2
        have hp : p = a'.name := by rw [HPV.out, HV'.out]
        subst hp
        have hw : wrap64 (((j + 1 : Nat) : Int) - 1) = (j : Int) := by rw [show ((j + 1 : Nat) : Int) - 1 = (j : Int) by omega]; exact IntWalk.wrap64_in _ (by omega)
        have hle : MM.le a.name a'.name = (Op.bytesLess a.name.toList a'.name.toList || a.name.toList == a'.name.toList) := rfl
        rw [hle] at K2 K3 K4
        clear hle q1' q2'
        cases hl : (Op.bytesLess a.name.toList a'.name.toList || a.name.toList == a'.name.toList)
        · rcases hkd with ⟨rfl, g1, g2⟩ | ⟨rfl, g | ⟨g1, g2⟩⟩
          · have HX := Lib.hid (K4.out (by trivial) hl (by trivial))
            go_wp2_with fail
            go_quiet (fail)
            go_wp2_with fail
            go_roundw
            case rel => exact ⟨j + 1 + 1, a.name, by omega, by go_num, HX, Lib.hid (fun h => by omega), HV2, Lib.hid (by first | exact HB.out | exact below_drewN HB.out _)⟩
            case measure => simp [intOf]; omega
          all_goals (
            have HX := Lib.hid (K3.out (by trivial) hl (by trivial))
            go_wp2_with fail
            go_quiet (fail)
            go_wp2_with fail
            go_ret
            exact ⟨by rw [HX.out] <;> rfl, by first | exact HB.out | exact below_drewN HB.out _⟩)
        · have HX := Lib.hid (K2.out (by trivial) hl)
          go_wp2_with fail
          go_quiet (fail)
          go_wp2_with fail
          go_ret
          exact ⟨by rw [HX.out] <;> rfl, by first | exact HB.out | exact below_drewN HB.out _⟩
    · obtain rfl : k = l.length := by omega
      have HX : Hid (r = 0) := Lib.hid (HE.out.trans (HZ.out p))
      go_wp2_with fail
      go_ret
      exact ⟨by rw [HX.out] <;> rfl, HB.out⟩
end Go.Proofs.Ytlnllbcpbohahaa
