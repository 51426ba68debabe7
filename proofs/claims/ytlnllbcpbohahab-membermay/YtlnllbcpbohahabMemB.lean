/- Contracts of layer 11: Check, the program's and the reference's. -/
import Derived.Test.YtlnllbcpbohahabMemA
namespace Go.Proofs.Ytlnllbcpbohahab
open Go.RowKit Go.Recs
set_option linter.unusedVariables false
set_option linter.unusedSimpArgs false

theorem drop_acc {l : List MM.Ac} {k : Nat} (h : k < l.length) : l.drop k = aAt l k :: l.drop (k + 1) := by rw [List.drop_eq_getElem_cons h, aAt_get h]
theorem drop_mem {l : List MM.Mem} {k : Nat} (h : k < l.length) : l.drop k = MM.mAt l k :: l.drop (k + 1) := by rw [List.drop_eq_getElem_cons h, MM.mAt_get h]

set_option maxHeartbeats 4000000 in
theorem accs_any (A : Option Addr) (l : List MM.Ac) (cap : Nat) (w : World) (hI : Accs w A l) :
    Calls Try.prog 34 #[.slice A l.length cap] w fun e w' => e = .returned (.int .i64 (MM.accE MM.nil l)) ∧ Below w.heap.size w w' := by
  have hlen : l.length ≤ 9223372036854775807 := hI.len
  have K0 := Lib.hid (fun k => @drop_acc l k)
  have HE0 : Hid (MM.accE MM.nil l = MM.accE MM.nil (l.drop 0)) := Lib.hid (by rw [List.drop_zero])
  have HZ : Hid (∀ p, MM.accE p (l.drop l.length) = 0) := Lib.hid (fun p => by rw [List.drop_length]; rfl)
  generalize MM.accE MM.nil l = r at *
  have HI := Lib.hid hI
  clear hI
  go_enter Try.func34, Try.ntmps34
  go_wp2
  go_loopw [8, 5, 3] (fun i _ pv wr => ∃ k : Nat, ∃ p : ByteArray, k ≤ l.length ∧ i = .int .i64 k ∧ pv = .string p ∧ Hid (r = MM.accE p (l.drop k)) ∧ Hid (Below w.heap.size w wr)) (fun i _ _ _ => l.length - (intOf i).toNat)
  case atStart => exact ⟨0, MM.nil, by omega, rfl, rfl, HE0, Lib.hid (Below.refl _ _)⟩
  case round =>
    obtain ⟨k, p, hk, rfl, rfl, HE, HB⟩ := hrel
    by_cases hlt : k < l.length
    · obtain ⟨b, off, a, rfl, hb, HV, ⟨q1, q2⟩, d0, d1⟩ := accs_get (HI.out.below HB.out) hlt
      have HD := Lib.hid (K0.out k hlt)
      rw [HV.out] at HD
      have C0 := Lib.hid (fun ww => name_any a.name ww q1)
      have C1 := Lib.hid (fun ww => isKind_any a.kind ww)
      have HB2 := Lib.hid (HB.out.alloc HB.out.size (.cells (accC a) 26))
      have hle : MM.le a.name p = (Op.bytesLess a.name.toList p.toList || a.name.toList == p.toList) := rfl
      have K1 := Lib.hid (@MM.acc_name p a (l.drop (k + 1))); have K2 := Lib.hid (@MM.acc_le p a (l.drop (k + 1))); have K3 := Lib.hid (@MM.acc_kind p a (l.drop (k + 1))); have K4 := Lib.hid (@MM.acc_next p a (l.drop (k + 1)))
      rw [← HD.out] at K1 K2 K3 K4
      rw [← HE.out] at K1 K2 K3 K4
      have eN : MM.okN a.name = WM.name (L a.name) := rfl
      rw [eN] at K1 K2 K3 K4
      rw [hle] at K2 K3 K4
      generalize WM.name (L a.name) = b0 at *
      generalize MM.kindOk a.kind = b1 at *
      clear q1 q2 hle eN HD
      go_wp2_with fail
      refine (C0.out _).mono ?_
      rintro e w1 ⟨rfl, rfl⟩
      cases b0
      · have HX := Lib.hid (K1.out (by trivial))
        go_wp2_with fail
        go_ret
        exact ⟨by rw [HX.out] <;> rfl, HB2.out⟩
      cases hl : (Op.bytesLess a.name.toList p.toList || a.name.toList == p.toList)
      · go_wp2_with fail
        refine (C1.out _).mono ?_
        rintro e w1 ⟨rfl, rfl⟩
        cases b1
        · have HX := Lib.hid (K3.out (by trivial) hl (by trivial))
          go_wp2_with fail
          go_ret
          exact ⟨by rw [HX.out] <;> rfl, HB2.out⟩
        have HX := Lib.hid (K4.out (by trivial) hl (by trivial))
        go_wp2_with fail
        go_roundw
        case rel => exact ⟨k + 1, a.name, by omega, by go_num, rfl, HX, HB2⟩
        case measure => simp [intOf]; omega
      · have HX := Lib.hid (K2.out (by trivial) hl)
        go_wp2_with fail
        go_ret
        exact ⟨by rw [HX.out] <;> rfl, HB2.out⟩
    · obtain rfl : k = l.length := by omega
      have HX : Hid (r = 0) := Lib.hid (HE.out.trans (HZ.out p))
      go_wp2_with fail
      go_ret
      exact ⟨by rw [HX.out] <;> rfl, HB.out⟩
end Go.Proofs.Ytlnllbcpbohahab
