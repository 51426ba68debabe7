/- Contracts of layer 11: Check, the program's. -/
import Derived.Test.YtlnllbcpbohahabMemC
namespace Go.Proofs.Ytlnllbcpbohahab
open Go.RowKit Go.Recs
set_option linter.unusedVariables false
set_option linter.unusedSimpArgs false

set_option maxHeartbeats 4000000 in
theorem one_any (m : MM.Mem) (A : Option Addr) (cap : Nat) (p : ByteArray) (w : World) (hn : m.name.size ≤ maxLen) (hI : Accs w A m.accs) :
    Calls Try.prog 25 #[memA m A cap, .string p] w fun e w' => e = .returned (.int .i64 (MM.memE p [m])) ∧ Below w.heap.size w w' := by
  have hlen : m.accs.length ≤ 9223372036854775807 := hI.len
  have HB0 := Lib.hid ((Below.refl w.heap.size w).alloc (Nat.le_refl _) (.cells (memC m A cap) 29))
  have HI := Lib.hid (hI.below HB0.out)
  have C0 := Lib.hid (fun ww => name_any m.name ww hn)
  have C1 := Lib.hid (fun ww => isStatus_any m.status ww)
  have C2 := Lib.hid (fun ww h => accs_any A m.accs cap ww h)
  have K1 := Lib.hid (@MM.mem_name p m []); have K2 := Lib.hid (@MM.mem_le p m []); have K3 := Lib.hid (@MM.mem_stat p m []); have K4 := Lib.hid (@MM.mem_long p m []); have K5 := Lib.hid (@MM.one_accs p m)
  have eN : MM.okN m.name = WM.name (L m.name) := rfl
  have hle : MM.le m.name p = (Op.bytesLess m.name.toList p.toList || m.name.toList == p.toList) := rfl
  rw [eN] at K1 K2 K3 K4 K5
  rw [hle] at K2 K3 K4 K5
  generalize MM.memE p [m] = r at *
  generalize WM.name (L m.name) = b0 at *
  generalize MM.statOk m.status = b1 at *
  generalize MM.accE MM.nil m.accs = ae at *
  clear hI eN hle hn
  go_enter Try.func25, Try.ntmps25
  go_wp2_with fail
  refine (C0.out _).mono ?_
  rintro e w1 ⟨rfl, rfl⟩
  cases b0
  · have HX := Lib.hid (K1.out (by trivial))
    go_wp2_with fail
    go_ret
    exact ⟨by rw [HX.out] <;> rfl, HB0.out⟩
  cases hl : (Op.bytesLess m.name.toList p.toList || m.name.toList == p.toList)
  · go_wp2_with fail
    refine (C1.out _).mono ?_
    rintro e w1 ⟨rfl, rfl⟩
    cases b1
    · have HX := Lib.hid (K3.out (by trivial) hl (by trivial))
      go_wp2_with fail
      go_ret
      exact ⟨by rw [HX.out] <;> rfl, HB0.out⟩
    by_cases h16 : 16 < m.accs.length
    · have HX := Lib.hid (K4.out (by trivial) hl (by trivial) h16)
      go_wp2_with fail
      go_ret
      exact ⟨by rw [HX.out] <;> rfl, HB0.out⟩
    · have HX := Lib.hid (K5.out (by trivial) hl (by trivial) h16)
      go_wp2_with fail
      refine (C2.out _ HI.out).mono ?_
      rintro e w1 ⟨rfl, b1⟩
      have HB1 := Lib.hid (HB0.out.trans (b1.mono HB0.out.size))
      clear b1
      go_wp2_with fail
      go_ret
      exact ⟨by rw [HX.out] <;> rfl, HB1.out⟩
  · have HX := Lib.hid (K2.out (by trivial) hl)
    go_wp2_with fail
    go_ret
    exact ⟨by rw [HX.out] <;> rfl, HB0.out⟩

set_option maxHeartbeats 4000000 in
theorem mcheck_any (A : Option Addr) (l : List MM.Mem) (cap : Nat) (w : World) (hI : Mems w A l) :
    Calls Try.prog 13 #[.slice A l.length cap] w fun e w' => e = .returned (.int .i64 (MM.checkE l)) ∧ Below w.heap.size w w' := by
  have hlen : l.length ≤ 9223372036854775807 := hI.len
  by_cases h32 : 32 < l.length
  · rw [show MM.checkE l = 8 from if_pos h32]
    clear hI
    go_enter Try.func13, Try.ntmps13
    go_wp2
    go_ret
    exact ⟨rfl, Below.refl _ _⟩
  rw [show MM.checkE l = MM.memE MM.nil l from if_neg h32]
  have K0 := Lib.hid (fun k => @drop_mem l k)
  have HE0 : Hid (MM.memE MM.nil l = MM.memE MM.nil (l.drop 0)) := Lib.hid (by rw [List.drop_zero])
  have HZ : Hid (∀ p, MM.memE p (l.drop l.length) = 0) := Lib.hid (fun p => by rw [List.drop_length]; rfl)
  generalize MM.memE MM.nil l = r at *
  have HI := Lib.hid hI
  clear hI
  go_enter Try.func13, Try.ntmps13
  go_wp2
  go_loopw [12, 5, 3, 6] (fun i _ pv _ wr => ∃ k : Nat, ∃ p : ByteArray, k ≤ l.length ∧ i = .int .i64 k ∧ pv = .string p ∧ Hid (r = MM.memE p (l.drop k)) ∧ Hid (Below w.heap.size w wr)) (fun i _ _ _ _ => l.length - (intOf i).toNat)
  case atStart => exact ⟨0, MM.nil, by omega, rfl, rfl, HE0, Lib.hid (Below.refl _ _)⟩
  case round =>
    obtain ⟨k, p, hk, rfl, rfl, HE, HB⟩ := hrel
    by_cases hlt : k < l.length
    · obtain ⟨b, off, A', cap', m, rfl, hb, HV, q1, q2, q3, q4, d0, d1, d2⟩ := (HI.out.below HB.out).get hlt
      have HD := Lib.hid (K0.out k hlt)
      rw [HV.out] at HD
      have HB2 := Lib.hid (HB.out.alloc HB.out.size (.cells (memC m A' cap') 29))
      have HQ := Lib.hid (q3.below ((Below.refl wr.heap.size wr).alloc (Nat.le_refl _) (.cells (memC m A' cap') 29)))
      have HM := Lib.hid (CB.new wr 29 (memC m A' cap'))
      have C0 := Lib.hid (fun ww h => one_any m A' cap' p ww q1 h)
      have K1 := Lib.hid (MM.mem_one p m (l.drop (k + 1)))
      rw [← HD.out, ← HE.out] at K1
      generalize MM.memE p [m] = x at *
      clear q1 q2 q3 q4 HD
      go_wp2_with fail
      refine (C0.out _ HQ.out).mono ?_
      rintro e w1 ⟨rfl, b1⟩
      have HB3 := Lib.hid (HB2.out.trans (b1.mono HB2.out.size))
      have c0 : w1.cell? ⟨wr.heap.size, 0, none⟩ = some (.string m.name) := (HM.out.below b1 HM.out.lt).cell 0
      clear b1 HM HQ HB2
      by_cases hx : x = 0
      · subst hx
        have HX : Hid (r = MM.memE m.name (l.drop (k + 1))) := Lib.hid (by rw [K1.out]; simp)
        go_wp2_with fail
        go_roundw
        case rel => exact ⟨k + 1, m.name, by omega, by go_num, rfl, HX, HB3⟩
        case measure => simp [intOf]; omega
      · have hx2 : (x != 0) = true := by simpa using hx
        have HX : Hid (r = x) := Lib.hid (by rw [K1.out, if_pos hx])
        go_wp2_with fail
        go_ret
        exact ⟨by rw [HX.out] <;> rfl, HB3.out⟩
    · obtain rfl : k = l.length := by omega
      have HX : Hid (r = 0) := Lib.hid (HE.out.trans (HZ.out p))
      go_wp2_with fail
      go_ret
      exact ⟨by rw [HX.out] <;> rfl, HB.out⟩

end Go.Proofs.Ytlnllbcpbohahab
