/- Put together: MemB, MemC, MemD, MemE, RecsCat. -/
import Derived.Test.YtlnllbcpbohahaaBun4
import Derived.Deep.QuietTactic
import Derived.Test.YtlnllbcpbohahaaBun1
/- Contracts of layer 11: Check, the program's and the reference's. -/
namespace Go.Proofs.Ytlnllbcpbohahaa
open Go.RowKit Go.Recs
set_option linter.unusedVariables false
set_option linter.unusedSimpArgs false

theorem drop_acc {l : List MM.Ac} {k : Nat} (h : k < l.length) : l.drop k = aAt l k :: l.drop (k + 1) := by rw [List.drop_eq_getElem_cons h, aAt_get h]
theorem drop_mem {l : List MM.Mem} {k : Nat} (h : k < l.length) : l.drop k = MM.mAt l k :: l.drop (k + 1) := by rw [List.drop_eq_getElem_cons h, MM.mAt_get h]

set_option maxHeartbeats 4000000 in
theorem accs_any (A : Option Addr) (l : List MM.Ac) (cap : Nat) (w : World) (hI : Accs w A l) :
    Calls Try.prog 45 #[.slice A l.length cap] w fun e w' => e = .returned (.int .i64 (MM.accE MM.nil l)) ∧ Below w.heap.size w w' := by
  have hlen : l.length ≤ 9223372036854775807 := hI.len
  have K0 := Lib.hid (fun k => @drop_acc l k)
  have HE0 : Hid (MM.accE MM.nil l = MM.accE MM.nil (l.drop 0)) := Lib.hid (by rw [List.drop_zero])
  have HZ : Hid (∀ p, MM.accE p (l.drop l.length) = 0) := Lib.hid (fun p => by rw [List.drop_length]; rfl)
  generalize MM.accE MM.nil l = r at *
  have HI := Lib.hid hI
  clear hI
  go_enter Try.func45, Try.ntmps45
  go_wp2
  go_loopw [8, 5, 3] (fun i _ pv wr => ∃ k : Nat, ∃ p : ByteArray, k ≤ l.length ∧ i = .int .i64 k ∧ pv = .string p ∧ Hid (r = MM.accE p (l.drop k)) ∧ Hid (Below w.heap.size w wr)) (fun i _ _ _ => l.length - (intOf i).toNat)
  case atStart => exact ⟨0, MM.nil, by omega, rfl, rfl, HE0, Lib.hid (Below.refl _ _)⟩
  case round =>
    obtain ⟨k, p, hk, rfl, rfl, HE, HB⟩ := hrel
    by_cases hlt : k < l.length
    · obtain ⟨b, off, a, rfl, hb, HV, ⟨q1, q2⟩, d0, d1⟩ := accs_get (HI.out.below HB.out) hlt
      have HD := Lib.hid (K0.out k hlt)
      rw [HV.out] at HD
      have C0 := Lib.hid (fun ww => name_any a.name ww q1)
      have C1 := Lib.hid (fun ww => isKind_any a.kind ww)
      have HB2 := Lib.hid (HB.out.alloc HB.out.size (.cells (accC a) 36))
      have hle : MM.le a.name p = (Op.bytesLess a.name.toList p.toList || a.name.toList == p.toList) := rfl
      have K1 := Lib.hid (@MM.acc_name p a (l.drop (k + 1))); have K2 := Lib.hid (@MM.acc_le p a (l.drop (k + 1))); have K3 := Lib.hid (@MM.acc_kind p a (l.drop (k + 1))); have K4 := Lib.hid (@MM.acc_next p a (l.drop (k + 1)))
      rw [← HD.out] at K1 K2 K3 K4
      rw [← HE.out] at K1 K2 K3 K4
      have eN : MM.okN a.name = WM.name (L a.name) := rfl
      rw [eN] at K1 K2 K3 K4
      rw [hle] at K2 K3 K4
      generalize WM.name (L a.name) = b0 at *
      generalize MM.kindOk a.kind = b1 at *
      clear q1 q2 hle eN HD
      go_wp2_with fail
      refine (C0.out _).mono ?_
      rintro e w1 ⟨rfl, rfl⟩
      cases b0
      · have HX := Lib.hid (K1.out (by trivial))
        go_wp2_with fail
        go_ret
        exact ⟨by rw [HX.out] <;> rfl, HB2.out⟩
      cases hl : (Op.bytesLess a.name.toList p.toList || a.name.toList == p.toList)
      · go_wp2_with fail
        refine (C1.out _).mono ?_
        rintro e w1 ⟨rfl, rfl⟩
        cases b1
        · have HX := Lib.hid (K3.out (by trivial) hl (by trivial))
          go_wp2_with fail
          go_ret
          exact ⟨by rw [HX.out] <;> rfl, HB2.out⟩
        have HX := Lib.hid (K4.out (by trivial) hl (by trivial))
        go_wp2_with fail
        go_roundw
        case rel => exact ⟨k + 1, a.name, by omega, by go_num, rfl, HX, HB2⟩
        case measure => simp [intOf]; omega
      · have HX := Lib.hid (K2.out (by trivial) hl)
        go_wp2_with fail
        go_ret
        exact ⟨by rw [HX.out] <;> rfl, HB2.out⟩
    · obtain rfl : k = l.length := by omega
      have HX : Hid (r = 0) := Lib.hid (HE.out.trans (HZ.out p))
      go_wp2_with fail
      go_ret
      exact ⟨by rw [HX.out] <;> rfl, HB.out⟩
end Go.Proofs.Ytlnllbcpbohahaa

/- Contracts of layer 11: Check of one member, of all; the reference's Check. -/
namespace Go.Proofs.Ytlnllbcpbohahaa
open Go.RowKit Go.Recs
set_option linter.unusedVariables false
set_option linter.unusedSimpArgs false

def accsE (l : List MM.Ac) : Int := if 16 < l.length then 8 else MM.accE MM.nil l

set_option maxHeartbeats 4000000 in
theorem raccs_any (A : Option Addr) (l : List MM.Ac) (cap : Nat) (w : World) (hI : Accs w A l) :
    Calls Try.prog 29 #[.slice A l.length cap] w fun e w' => e = .returned (.int .i64 (accsE l)) ∧ Below w.heap.size w w' := by
  have hlen : l.length ≤ 9223372036854775807 := hI.len
  by_cases h16 : 16 < l.length
  · rw [show accsE l = 8 from if_pos h16]
    clear hI
    go_enter Try.func29, Try.ntmps29
    go_wp2
    go_ret
    exact ⟨rfl, Below.refl _ _⟩
  rw [show accsE l = MM.accE MM.nil l from if_neg h16]
  have K0 := Lib.hid (fun k => @drop_acc l k)
  have HE0 : Hid (MM.accE MM.nil l = MM.accE MM.nil (l.drop 0)) := Lib.hid (by rw [List.drop_zero])
  have HZ : Hid (∀ p, MM.accE p (l.drop l.length) = 0) := Lib.hid (fun p => by rw [List.drop_length]; rfl)
  generalize MM.accE MM.nil l = r at *
  have HI := Lib.hid hI
  clear hI
  go_enter Try.func29, Try.ntmps29
  go_wp2
  go_loopw [3] (fun i wr => ∃ k : Nat, ∃ p : ByteArray, k ≤ l.length ∧ i = .int .i64 k ∧ Hid (r = MM.accE p (l.drop k)) ∧ Hid (k = 0 → p = MM.nil) ∧ Hid (∀ j, k = j + 1 → p = (aAt l j).name) ∧ Hid (Below w.heap.size w wr)) (fun i _ => l.length - (intOf i).toNat)
  case atStart => exact ⟨0, MM.nil, by omega, rfl, HE0, Lib.hid (fun _ => rfl), Lib.hid (fun j h => by omega), Lib.hid (Below.refl _ _)⟩
  case round =>
    obtain ⟨k, p, hk, rfl, HE, HP0, HP1, HB⟩ := hrel
    by_cases hlt : k < l.length
    · obtain ⟨b, off, a, rfl, hb, HV, ⟨q1, q2⟩, d0, d1⟩ := accs_get (HI.out.below HB.out) hlt
      have HD := Lib.hid (K0.out k hlt)
      rw [HV.out] at HD
      have C0 := Lib.hid (fun ww => rname_any a.name ww q1)
      have K1 := Lib.hid (@MM.acc_name p a (l.drop (k + 1))); have K2 := Lib.hid (@MM.acc_le p a (l.drop (k + 1))); have K3 := Lib.hid (@MM.acc_kind p a (l.drop (k + 1))); have K4 := Lib.hid (@MM.acc_next p a (l.drop (k + 1)))
      rw [← HD.out] at K1 K2 K3 K4
      rw [← HE.out] at K1 K2 K3 K4
      have KOK := Lib.hid (@MM.ok_le a.name)
      have eN : MM.okN a.name = WM.name (L a.name) := rfl
      rw [eN] at K1 K2 K3 K4 KOK
      generalize WM.name (L a.name) = b0 at *
      have HV2 : Hid (∀ j, k + 1 = j + 1 → a.name = (aAt l j).name) := Lib.hid (fun j hj => by
        obtain rfl : k = j := by omega
        rw [HV.out])
      clear q1 q2 eN HD
      go_wp2_with fail
      refine (C0.out _).mono ?_
      rintro e w1 ⟨rfl, rfl⟩
      cases b0
      · have HX := Lib.hid (K1.out (by trivial))
        go_wp2_with fail
        go_ret
        exact ⟨by rw [HX.out] <;> rfl, HB.out⟩
      have hkk : k = 0 ∨ ∃ j, k = j + 1 := by
        cases k with
        | zero => exact .inl rfl
        | succ j => exact .inr ⟨j, rfl⟩
      have hkd : MM.kindOk a.kind = true ∧ (1 ≤ a.kind ∧ a.kind ≤ 3) ∨ MM.kindOk a.kind = false ∧ (a.kind < 1 ∨ (1 ≤ a.kind ∧ 3 < a.kind)) := by
        unfold MM.kindOk
        by_cases g1 : 1 ≤ a.kind <;> by_cases g2 : a.kind ≤ 3 <;> simp [g1, g2] <;> omega
      generalize MM.kindOk a.kind = b1 at *
      rcases hkk with rfl | ⟨j, rfl⟩
      · obtain rfl := HP0.out rfl
        have hl := KOK.out (by trivial)
        rcases hkd with ⟨rfl, g1, g2⟩ | ⟨rfl, g | ⟨g1, g2⟩⟩
        · have HX := Lib.hid (K4.out (by trivial) hl (by trivial))
          clear hl
          go_wp2_with fail
          go_quiet (fail)
          go_wp2_with fail
          go_roundw
          case rel => exact ⟨1, a.name, by omega, by go_num, HX, Lib.hid (fun h => by omega), HV2, Lib.hid (by first | exact HB.out | exact below_drewN HB.out _)⟩
          case measure => simp [intOf]; omega
        all_goals (
          have HX := Lib.hid (K3.out (by trivial) hl (by trivial))
          clear hl
          go_wp2_with fail
          go_quiet (fail)
          go_wp2_with fail
          go_ret
          exact ⟨by rw [HX.out] <;> rfl, by first | exact HB.out | exact below_drewN HB.out _⟩)
      · have HPV := Lib.hid (HP1.out j rfl)
        obtain ⟨b', off', a', e', hb', HV', ⟨q1', q2'⟩, d0', d1'⟩ := accs_get (HI.out.below HB.out) (show j < l.length by omega)
        injection e' with e'
        injection e' with e1 e2
        subst e1 e2
        have hp : p = a'.name := by rw [HPV.out, HV'.out]
        subst hp
        have hw : wrap64 (((j + 1 : Nat) : Int) - 1) = (j : Int) := by rw [show ((j + 1 : Nat) : Int) - 1 = (j : Int) by omega]; exact IntWalk.wrap64_in _ (by omega)
        have hle : MM.le a.name a'.name = (Op.bytesLess a.name.toList a'.name.toList || a.name.toList == a'.name.toList) := rfl
        rw [hle] at K2 K3 K4
        clear hle q1' q2'
        cases hl : (Op.bytesLess a.name.toList a'.name.toList || a.name.toList == a'.name.toList)
        · rcases hkd with ⟨rfl, g1, g2⟩ | ⟨rfl, g | ⟨g1, g2⟩⟩
          · have HX := Lib.hid (K4.out (by trivial) hl (by trivial))
            go_wp2_with fail
            go_quiet (fail)
            go_wp2_with fail
            go_roundw
            case rel => exact ⟨j + 1 + 1, a.name, by omega, by go_num, HX, Lib.hid (fun h => by omega), HV2, Lib.hid (by first | exact HB.out | exact below_drewN HB.out _)⟩
            case measure => simp [intOf]; omega
          all_goals (
            have HX := Lib.hid (K3.out (by trivial) hl (by trivial))
            go_wp2_with fail
            go_quiet (fail)
            go_wp2_with fail
            go_ret
            exact ⟨by rw [HX.out] <;> rfl, by first | exact HB.out | exact below_drewN HB.out _⟩)
        · have HX := Lib.hid (K2.out (by trivial) hl)
          go_wp2_with fail
          go_quiet (fail)
          go_wp2_with fail
          go_ret
          exact ⟨by rw [HX.out] <;> rfl, by first | exact HB.out | exact below_drewN HB.out _⟩
    · obtain rfl : k = l.length := by omega
      have HX : Hid (r = 0) := Lib.hid (HE.out.trans (HZ.out p))
      go_wp2_with fail
      go_ret
      exact ⟨by rw [HX.out] <;> rfl, HB.out⟩
end Go.Proofs.Ytlnllbcpbohahaa

/- Contracts of layer 11: Check, the program's. -/
namespace Go.Proofs.Ytlnllbcpbohahaa
open Go.RowKit Go.Recs
set_option linter.unusedVariables false
set_option linter.unusedSimpArgs false

set_option maxHeartbeats 4000000 in
theorem one_any (m : MM.Mem) (A : Option Addr) (cap : Nat) (p : ByteArray) (w : World) (hn : m.name.size ≤ maxLen) (hI : Accs w A m.accs) :
    Calls Try.prog 27 #[memA m A cap, .string p] w fun e w' => e = .returned (.int .i64 (MM.memE p [m])) ∧ Below w.heap.size w w' := by
  have hlen : m.accs.length ≤ 9223372036854775807 := hI.len
  have HB0 := Lib.hid ((Below.refl w.heap.size w).alloc (Nat.le_refl _) (.cells (memC m A cap) 32))
  have HI := Lib.hid (hI.below HB0.out)
  have C0 := Lib.hid (fun ww => name_any m.name ww hn)
  have C1 := Lib.hid (fun ww => isStatus_any m.status ww)
  have C2 := Lib.hid (fun ww h => accs_any A m.accs cap ww h)
  have K1 := Lib.hid (@MM.mem_name p m []); have K2 := Lib.hid (@MM.mem_le p m []); have K3 := Lib.hid (@MM.mem_stat p m []); have K4 := Lib.hid (@MM.mem_long p m []); have K5 := Lib.hid (@MM.one_accs p m)
  have eN : MM.okN m.name = WM.name (L m.name) := rfl
  have hle : MM.le m.name p = (Op.bytesLess m.name.toList p.toList || m.name.toList == p.toList) := rfl
  rw [eN] at K1 K2 K3 K4 K5
  rw [hle] at K2 K3 K4 K5
  generalize MM.memE p [m] = r at *
  generalize WM.name (L m.name) = b0 at *
  generalize MM.statOk m.status = b1 at *
  generalize MM.accE MM.nil m.accs = ae at *
  clear hI eN hle hn
  go_enter Try.func27, Try.ntmps27
  go_wp2_with fail
  refine (C0.out _).mono ?_
  rintro e w1 ⟨rfl, rfl⟩
  cases b0
  · have HX := Lib.hid (K1.out (by trivial))
    go_wp2_with fail
    go_ret
    exact ⟨by rw [HX.out] <;> rfl, HB0.out⟩
  cases hl : (Op.bytesLess m.name.toList p.toList || m.name.toList == p.toList)
  · go_wp2_with fail
    refine (C1.out _).mono ?_
    rintro e w1 ⟨rfl, rfl⟩
    cases b1
    · have HX := Lib.hid (K3.out (by trivial) hl (by trivial))
      go_wp2_with fail
      go_ret
      exact ⟨by rw [HX.out] <;> rfl, HB0.out⟩
    by_cases h16 : 16 < m.accs.length
    · have HX := Lib.hid (K4.out (by trivial) hl (by trivial) h16)
      go_wp2_with fail
      go_ret
      exact ⟨by rw [HX.out] <;> rfl, HB0.out⟩
    · have HX := Lib.hid (K5.out (by trivial) hl (by trivial) h16)
      go_wp2_with fail
      refine (C2.out _ HI.out).mono ?_
      rintro e w1 ⟨rfl, b1⟩
      have HB1 := Lib.hid (HB0.out.trans (b1.mono HB0.out.size))
      clear b1
      go_wp2_with fail
      go_ret
      exact ⟨by rw [HX.out] <;> rfl, HB1.out⟩
  · have HX := Lib.hid (K2.out (by trivial) hl)
    go_wp2_with fail
    go_ret
    exact ⟨by rw [HX.out] <;> rfl, HB0.out⟩

set_option maxHeartbeats 4000000 in
theorem mcheck_any (A : Option Addr) (l : List MM.Mem) (cap : Nat) (w : World) (hI : Mems w A l) :
    Calls Try.prog 7 #[.slice A l.length cap] w fun e w' => e = .returned (.int .i64 (MM.checkE l)) ∧ Below w.heap.size w w' := by
  have hlen : l.length ≤ 9223372036854775807 := hI.len
  by_cases h32 : 32 < l.length
  · rw [show MM.checkE l = 8 from if_pos h32]
    clear hI
    go_enter Try.func7, Try.ntmps7
    go_wp2
    go_ret
    exact ⟨rfl, Below.refl _ _⟩
  rw [show MM.checkE l = MM.memE MM.nil l from if_neg h32]
  have K0 := Lib.hid (fun k => @drop_mem l k)
  have HE0 : Hid (MM.memE MM.nil l = MM.memE MM.nil (l.drop 0)) := Lib.hid (by rw [List.drop_zero])
  have HZ : Hid (∀ p, MM.memE p (l.drop l.length) = 0) := Lib.hid (fun p => by rw [List.drop_length]; rfl)
  generalize MM.memE MM.nil l = r at *
  have HI := Lib.hid hI
  clear hI
  go_enter Try.func7, Try.ntmps7
  go_wp2
  go_loopw [12, 5, 3, 6] (fun i _ pv _ wr => ∃ k : Nat, ∃ p : ByteArray, k ≤ l.length ∧ i = .int .i64 k ∧ pv = .string p ∧ Hid (r = MM.memE p (l.drop k)) ∧ Hid (Below w.heap.size w wr)) (fun i _ _ _ _ => l.length - (intOf i).toNat)
  case atStart => exact ⟨0, MM.nil, by omega, rfl, rfl, HE0, Lib.hid (Below.refl _ _)⟩
  case round =>
    obtain ⟨k, p, hk, rfl, rfl, HE, HB⟩ := hrel
    by_cases hlt : k < l.length
    · obtain ⟨b, off, A', cap', m, rfl, hb, HV, q1, q2, q3, q4, d0, d1, d2⟩ := (HI.out.below HB.out).get hlt
      have HD := Lib.hid (K0.out k hlt)
      rw [HV.out] at HD
      have HB2 := Lib.hid (HB.out.alloc HB.out.size (.cells (memC m A' cap') 32))
      have HQ := Lib.hid (q3.below ((Below.refl wr.heap.size wr).alloc (Nat.le_refl _) (.cells (memC m A' cap') 32)))
      have HM := Lib.hid (CB.new wr 32 (memC m A' cap'))
      have C0 := Lib.hid (fun ww h => one_any m A' cap' p ww q1 h)
      have K1 := Lib.hid (MM.mem_one p m (l.drop (k + 1)))
      rw [← HD.out, ← HE.out] at K1
      generalize MM.memE p [m] = x at *
      clear q1 q2 q3 q4 HD
      go_wp2_with fail
      refine (C0.out _ HQ.out).mono ?_
      rintro e w1 ⟨rfl, b1⟩
      have HB3 := Lib.hid (HB2.out.trans (b1.mono HB2.out.size))
      have c0 : w1.cell? ⟨wr.heap.size, 0, none⟩ = some (.string m.name) := (HM.out.below b1 HM.out.lt).cell 0
      clear b1 HM HQ HB2
      by_cases hx : x = 0
      · subst hx
        have HX : Hid (r = MM.memE m.name (l.drop (k + 1))) := Lib.hid (by rw [K1.out]; simp)
        go_wp2_with fail
        go_roundw
        case rel => exact ⟨k + 1, m.name, by omega, by go_num, rfl, HX, HB3⟩
        case measure => simp [intOf]; omega
      · have hx2 : (x != 0) = true := by simpa using hx
        have HX : Hid (r = x) := Lib.hid (by rw [K1.out, if_pos hx])
        go_wp2_with fail
        go_ret
        exact ⟨by rw [HX.out] <;> rfl, HB3.out⟩
    · obtain rfl : k = l.length := by omega
      have HX : Hid (r = 0) := Lib.hid (HE.out.trans (HZ.out p))
      go_wp2_with fail
      go_ret
      exact ⟨by rw [HX.out] <;> rfl, HB.out⟩

set_option maxHeartbeats 4000000 in
theorem rmcheck_any (A : Option Addr) (l : List MM.Mem) (cap : Nat) (w : World) (hI : Mems w A l) :
    Calls Try.prog 8 #[.slice A l.length cap] w fun e w' => e = .returned (.int .i64 (MM.checkE l)) ∧ Below w.heap.size w w' := by
  have hlen : l.length ≤ 9223372036854775807 := hI.len
  by_cases h32 : 32 < l.length
  · rw [show MM.checkE l = 8 from if_pos h32]
    clear hI
    go_enter Try.func8, Try.ntmps8
    go_wp2
    go_ret
    exact ⟨rfl, Below.refl _ _⟩
  rw [show MM.checkE l = MM.memE MM.nil l from if_neg h32]
  have K0 := Lib.hid (fun k => @drop_mem l k)
  have HE0 : Hid (MM.memE MM.nil l = MM.memE MM.nil (l.drop 0)) := Lib.hid (by rw [List.drop_zero])
  have HZ : Hid (∀ p, MM.memE p (l.drop l.length) = 0) := Lib.hid (fun p => by rw [List.drop_length]; rfl)
  generalize MM.memE MM.nil l = r at *
  have HI := Lib.hid hI
  clear hI
  go_enter Try.func8, Try.ntmps8
  go_wp2
  go_loopw [3, 4] (fun i _ wr => ∃ k : Nat, ∃ p : ByteArray, k ≤ l.length ∧ i = .int .i64 k ∧ Hid (r = MM.memE p (l.drop k)) ∧ Hid (k = 0 → p = MM.nil) ∧ Hid (∀ j, k = j + 1 → p = (MM.mAt l j).name) ∧ Hid (Below w.heap.size w wr)) (fun i _ _ => l.length - (intOf i).toNat)
  case atStart => exact ⟨0, MM.nil, by omega, rfl, HE0, Lib.hid (fun _ => rfl), Lib.hid (fun j h => by omega), Lib.hid (Below.refl _ _)⟩
  case round =>
    obtain ⟨k, p, hk, rfl, HE, HP0, HP1, HB⟩ := hrel
    by_cases hlt : k < l.length
    · obtain ⟨b, off, A', cap', m, rfl, hb, HV, q1, q2, q3, q4, d0, d1, d2⟩ := (HI.out.below HB.out).get hlt
      have HD := Lib.hid (K0.out k hlt)
      rw [HV.out] at HD
      have C0 := Lib.hid (fun ww => rname_any m.name ww q1)
      have C1 := Lib.hid (fun ww h => raccs_any A' m.accs cap' ww h)
      have HQ := Lib.hid q3
      have K1 := Lib.hid (@MM.mem_name p m (l.drop (k + 1))); have K2 := Lib.hid (@MM.mem_le p m (l.drop (k + 1))); have K3 := Lib.hid (@MM.mem_stat p m (l.drop (k + 1)))
      have K4 : Hid (MM.okN m.name = true → MM.le m.name p = false → MM.statOk m.status = true → MM.memE p (m :: l.drop (k + 1)) = if accsE m.accs ≠ 0 then accsE m.accs else MM.memE m.name (l.drop (k + 1))) := Lib.hid (fun h1 h2 h3 => by
        unfold accsE
        by_cases h4 : 16 < m.accs.length
        · rw [MM.mem_long h1 h2 h3 h4, if_pos h4]; rfl
        · rw [if_neg h4]
          by_cases h5 : MM.accE MM.nil m.accs = 0
          · rw [MM.mem_next h1 h2 h3 h4 h5, h5]; rfl
          · rw [MM.mem_accs h1 h2 h3 h4 h5, if_pos h5])
      rw [← HD.out] at K1 K2 K3 K4
      rw [← HE.out] at K1 K2 K3 K4
      have KOK := Lib.hid (@MM.ok_le m.name)
      have eN : MM.okN m.name = WM.name (L m.name) := rfl
      rw [eN] at K1 K2 K3 K4 KOK
      generalize WM.name (L m.name) = b0 at *
      generalize accsE m.accs = ae at *
      have HV2 : Hid (∀ j, k + 1 = j + 1 → m.name = (MM.mAt l j).name) := Lib.hid (fun j hj => by
        obtain rfl : k = j := by omega
        rw [HV.out])
      clear q1 q2 q3 q4 eN HD
      go_wp2_with fail
      refine (C0.out _).mono ?_
      rintro e w1 ⟨rfl, rfl⟩
      cases b0
      · have HX := Lib.hid (K1.out (by trivial))
        go_wp2_with fail
        go_ret
        exact ⟨by rw [HX.out] <;> rfl, HB.out⟩
      have hkk : k = 0 ∨ ∃ j, k = j + 1 := by
        cases k with
        | zero => exact .inl rfl
        | succ j => exact .inr ⟨j, rfl⟩
      have hkd : MM.statOk m.status = true ∧ (1 ≤ m.status ∧ m.status ≤ 4) ∨ MM.statOk m.status = false ∧ (m.status < 1 ∨ (1 ≤ m.status ∧ 4 < m.status)) := by
        unfold MM.statOk
        by_cases g1 : 1 ≤ m.status <;> by_cases g2 : m.status ≤ 4 <;> simp [g1, g2] <;> omega
      generalize MM.statOk m.status = b1 at *
      rcases hkk with rfl | ⟨j, rfl⟩
      · obtain rfl := HP0.out rfl
        have hl := KOK.out (by trivial)
        rcases hkd with ⟨rfl, g1, g2⟩ | ⟨rfl, g | ⟨g1, g2⟩⟩
        · have HX := Lib.hid (K4.out (by trivial) hl (by trivial))
          clear hl K1 K2 K3 K4
          go_wp2_with fail
          go_quiet (fail)
          have HB1 := Lib.hid (below_drewN HB.out nq)
          have HQ1 := Lib.hid (HQ.out.drewN nq)
          have e0 : (wr.drewN nq).cell? ⟨b, off + 0 * 3 + 1, none⟩ = some (.int .i64 m.status) := d1
          have e1 : (wr.drewN nq).cell? ⟨b, off + 0 * 3 + 2, none⟩ = some (.slice A' m.accs.length cap') := d2
          have hb1 : b < (wr.drewN nq).heap.size := hb
          clear HB HQ d0 d1 d2 hb
          generalize wr.drewN nq = w1 at *
          go_wp2_with fail
          refine (C1.out _ HQ1.out).mono ?_
          rintro e w2 ⟨rfl, b2⟩
          have HB2 := Lib.hid (HB1.out.trans (b2.mono HB1.out.size))
          clear b2
          by_cases hx : ae = 0
          · subst hx
            have HX2 : Hid (r = MM.memE m.name (l.drop (0 + 1))) := Lib.hid (by rw [HX.out]; simp)
            go_wp2_with fail
            go_roundw
            case rel => exact ⟨0 + 1, m.name, by omega, by go_num, HX2, Lib.hid (fun h => by omega), HV2, HB2⟩
            case measure => simp [intOf]; omega
          · have hx2 : (ae != 0) = true := by simpa using hx
            have HX2 : Hid (r = ae) := Lib.hid (by rw [HX.out, if_pos hx])
            go_wp2_with fail
            go_ret
            exact ⟨by rw [HX2.out] <;> rfl, HB2.out⟩
        all_goals (
          have HX := Lib.hid (K3.out (by trivial) hl (by trivial))
          clear hl
          go_wp2_with fail
          go_quiet (fail)
          go_wp2_with fail
          go_ret
          exact ⟨by rw [HX.out] <;> rfl, by first | exact HB.out | exact below_drewN HB.out _⟩)
      · have HPV := Lib.hid (HP1.out j rfl)
        obtain ⟨b', off', A2, cap2, a', e', hb', HV', q1', q2', q3', q4', d0', d1', d2'⟩ := (HI.out.below HB.out).get (show j < l.length by omega)
        injection e' with e'
        injection e' with e1 e2
        subst e1 e2
        have hp : p = a'.name := by rw [HPV.out, HV'.out]
        subst hp
        have hw : wrap64 (((j + 1 : Nat) : Int) - 1) = (j : Int) := by rw [show ((j + 1 : Nat) : Int) - 1 = (j : Int) by omega]; exact IntWalk.wrap64_in _ (by omega)
        have hle : MM.le m.name a'.name = (Op.bytesLess m.name.toList a'.name.toList || m.name.toList == a'.name.toList) := rfl
        rw [hle] at K2 K3 K4
        clear hle q1' q2' q3' q4' d1' d2' hb'
        cases hl : (Op.bytesLess m.name.toList a'.name.toList || m.name.toList == a'.name.toList)
        · rcases hkd with ⟨rfl, g1, g2⟩ | ⟨rfl, g | ⟨g1, g2⟩⟩
          · have HX := Lib.hid (K4.out (by trivial) hl (by trivial))
            clear K1 K2 K3 K4
            go_wp2_with fail
            go_quiet (fail)
            have HB1 := Lib.hid (below_drewN HB.out nq)
            have HQ1 := Lib.hid (HQ.out.drewN nq)
            have e0 : (wr.drewN nq).cell? ⟨b, off + (j + 1) * 3 + 1, none⟩ = some (.int .i64 m.status) := d1
            have e1 : (wr.drewN nq).cell? ⟨b, off + (j + 1) * 3 + 2, none⟩ = some (.slice A' m.accs.length cap') := d2
            have hb1 : b < (wr.drewN nq).heap.size := hb
            clear HB HQ d0 d1 d2 hb d0' hl
            generalize wr.drewN nq = w1 at *
            go_wp2_with fail
            refine (C1.out _ HQ1.out).mono ?_
            rintro e w2 ⟨rfl, b2⟩
            have HB2 := Lib.hid (HB1.out.trans (b2.mono HB1.out.size))
            clear b2
            by_cases hx : ae = 0
            · subst hx
              have HX2 : Hid (r = MM.memE m.name (l.drop (j + 1 + 1))) := Lib.hid (by rw [HX.out]; simp)
              go_wp2_with fail
              go_roundw
              case rel => exact ⟨j + 1 + 1, m.name, by omega, by go_num, HX2, Lib.hid (fun h => by omega), HV2, HB2⟩
              case measure => simp [intOf]; omega
            · have hx2 : (ae != 0) = true := by simpa using hx
              have HX2 : Hid (r = ae) := Lib.hid (by rw [HX.out, if_pos hx])
              go_wp2_with fail
              go_ret
              exact ⟨by rw [HX2.out] <;> rfl, HB2.out⟩
          all_goals (
            have HX := Lib.hid (K3.out (by trivial) hl (by trivial))
            go_wp2_with fail
            go_quiet (fail)
            go_wp2_with fail
            go_ret
            exact ⟨by rw [HX.out] <;> rfl, by first | exact HB.out | exact below_drewN HB.out _⟩)
        · have HX := Lib.hid (K2.out (by trivial) hl)
          go_wp2_with fail
          go_quiet (fail)
          go_wp2_with fail
          go_ret
          exact ⟨by rw [HX.out] <;> rfl, by first | exact HB.out | exact below_drewN HB.out _⟩
    · obtain rfl : k = l.length := by omega
      have HX : Hid (r = 0) := Lib.hid (HE.out.trans (HZ.out p))
      go_wp2_with fail
      go_ret
      exact ⟨by rw [HX.out] <;> rfl, HB.out⟩
end Go.Proofs.Ytlnllbcpbohahaa

/- Contracts of layer 11: the place in a list. -/
namespace Go.Proofs.Ytlnllbcpbohahaa
open Go.RowKit Go.Recs
set_option linter.unusedVariables false
set_option linter.unusedSimpArgs false

theorem mhit {l : List MM.Mem} {p : MM.Mem → Bool} {k : Nat} (hk : k < l.length) (hj : ∀ j, j < k → p (MM.mAt l j) = false) (h : p (MM.mAt l k) = true) : MM.at_ p l = k ∧ (l.findIdx? p).isSome = true := by
  have e : l.findIdx? p = some k := MM.find_some hk (fun j hjl hjk => by rw [← MM.mAt_get hjl]; exact hj j hjk) (by rw [← MM.mAt_get hk]; exact h)
  unfold MM.at_
  rw [e]; exact ⟨rfl, rfl⟩
theorem mmiss {l : List MM.Mem} {p : MM.Mem → Bool} (hj : ∀ j, j < l.length → p (MM.mAt l j) = false) : MM.at_ p l = l.length ∧ (l.findIdx? p).isSome = false := by
  have e : l.findIdx? p = none := MM.find_none (fun j hjl => by rw [← MM.mAt_get hjl]; exact hj j hjl)
  unfold MM.at_
  rw [e]; exact ⟨rfl, rfl⟩
theorem ahit {l : List MM.Ac} {p : MM.Ac → Bool} {k : Nat} (hk : k < l.length) (hj : ∀ j, j < k → p (aAt l j) = false) (h : p (aAt l k) = true) : MM.at_ p l = k ∧ (l.findIdx? p).isSome = true := by
  have e : l.findIdx? p = some k := MM.find_some hk (fun j hjl hjk => by rw [← aAt_get hjl]; exact hj j hjk) (by rw [← aAt_get hk]; exact h)
  unfold MM.at_
  rw [e]; exact ⟨rfl, rfl⟩
theorem amiss {l : List MM.Ac} {p : MM.Ac → Bool} (hj : ∀ j, j < l.length → p (aAt l j) = false) : MM.at_ p l = l.length ∧ (l.findIdx? p).isSome = false := by
  have e : l.findIdx? p = none := MM.find_none (fun j hjl => by rw [← aAt_get hjl]; exact hj j hjl)
  unfold MM.at_
  rw [e]; exact ⟨rfl, rfl⟩

set_option maxHeartbeats 4000000 in
theorem mplace1_any (A : Option Addr) (l : List MM.Mem) (cap g : Nat) (n : ByteArray) (w : World) (hI : Mems w A l) (hg : CB w g 9 #[.string n]) :
    Calls Try.prog 36 #[.slice A l.length cap, .func (.func 46) #[] #[.pointer (some ⟨g, 0, none⟩)]] w fun e w' => e = .returned (.tuple #[.int .i64 ((MM.at_ (fun m => MM.eq m.name n) l : Nat) : Int), .bool (l.findIdx? (fun m => MM.eq m.name n)).isSome]) ∧ Below w.heap.size w w' := by
  have hlen : l.length ≤ 9223372036854775807 := hI.len
  have KY := Lib.hid (fun k => @mhit l (fun m => MM.eq m.name n) k); have KN := Lib.hid (@mmiss l (fun m => MM.eq m.name n))
  have HC := Lib.hid (fun (m : MM.Mem) A' cap' ww h => mname_any m A' cap' g n ww h)
  generalize MM.at_ (fun m => MM.eq m.name n) l = x at *
  generalize (l.findIdx? (fun m => MM.eq m.name n)).isSome = y at *
  have HI := Lib.hid hI; have HG := Lib.hid hg
  have hgl : g < w.heap.size := hg.lt
  clear hI hg
  go_enter Try.func36, Try.ntmps36
  go_wp2
  go_loopw [10, 7, 6] (fun i _ _ wr => ∃ k : Nat, k ≤ l.length ∧ i = .int .i64 k ∧ Hid (∀ j, j < k → (fun m => MM.eq m.name n) (MM.mAt l j) = false) ∧ Hid (Below w.heap.size w wr)) (fun i _ _ _ => l.length - (intOf i).toNat)
  case atStart => exact ⟨0, by omega, rfl, Lib.hid (fun j h => by omega), Lib.hid (Below.refl _ _)⟩
  case round =>
    obtain ⟨k, hk, rfl, HE, HB⟩ := hrel
    by_cases hlt : k < l.length
    · obtain ⟨b, off, A', cap', m, rfl, hb, HV, q1, q2, q3, q4, d0, d1, d2⟩ := (HI.out.below HB.out).get hlt
      have HB2 := Lib.hid (HB.out.alloc HB.out.size (.cells (memC m A' cap') 32))
      have C1 := Lib.hid (fun ww h => HC.out m A' cap' ww h)
      have HV2 : Hid ((fun m => MM.eq m.name n) (MM.mAt l k) = (fun m => MM.eq m.name n) m) := Lib.hid (by rw [HV.out])
      have HG2 := Lib.hid (HG.out.below HB2.out hgl)
      clear q1 q2 q3 q4 HC
      cases hp : (fun m => MM.eq m.name n) m
      · have hp' := hp
        simp only at hp'
        rw [hp'] at C1
        rw [hp] at HV2
        have HE2 : Hid (∀ j, j < k + 1 → (fun m => MM.eq m.name n) (MM.mAt l j) = false) := Lib.hid (fun j hj => by
          rcases Nat.lt_or_ge j k with gg | gg
          · exact HE.out j gg
          · obtain rfl : j = k := by omega
            exact HV2.out)
        clear hp hp'
        go_wp2_with fail
        refine (C1.out _ HG2.out).mono ?_
        rintro e w1 ⟨rfl, b1⟩
        have HB3 := Lib.hid (HB2.out.trans (b1.mono HB2.out.size))
        clear b1
        go_wp2_with fail
        go_roundw
        case rel => exact ⟨k + 1, by omega, by go_num, HE2, HB3⟩
        case measure => simp [intOf]; omega
      · have hp' := hp
        simp only at hp'
        rw [hp'] at C1
        have HX := Lib.hid (KY.out k hlt HE.out (HV2.out.trans hp))
        clear hp hp'
        go_wp2_with fail
        refine (C1.out _ HG2.out).mono ?_
        rintro e w1 ⟨rfl, b1⟩
        have HB3 := Lib.hid (HB2.out.trans (b1.mono HB2.out.size))
        clear b1
        go_wp2_with fail
        go_ret2
        exact ⟨by rw [HX.out.1, HX.out.2] <;> rfl, HB3.out⟩
    · obtain rfl : k = l.length := by omega
      have HX := Lib.hid (KN.out HE.out)
      go_wp2_with fail
      go_ret2
      exact ⟨by rw [HX.out.1, HX.out.2] <;> rfl, HB.out⟩

set_option maxHeartbeats 4000000 in
theorem mplace2_any (A : Option Addr) (l : List MM.Mem) (cap g : Nat) (n : ByteArray) (w : World) (hI : Mems w A l) (hg : CB w g 9 #[.string n]) :
    Calls Try.prog 36 #[.slice A l.length cap, .func (.func 37) #[] #[.pointer (some ⟨g, 0, none⟩)]] w fun e w' => e = .returned (.tuple #[.int .i64 ((MM.at_ (fun m => MM.lt n m.name) l : Nat) : Int), .bool (l.findIdx? (fun m => MM.lt n m.name)).isSome]) ∧ Below w.heap.size w w' := by
  have hlen : l.length ≤ 9223372036854775807 := hI.len
  have KY := Lib.hid (fun k => @mhit l (fun m => MM.lt n m.name) k); have KN := Lib.hid (@mmiss l (fun m => MM.lt n m.name))
  have HC := Lib.hid (fun (m : MM.Mem) A' cap' ww h => madd_any m A' cap' g n ww h)
  generalize MM.at_ (fun m => MM.lt n m.name) l = x at *
  generalize (l.findIdx? (fun m => MM.lt n m.name)).isSome = y at *
  have HI := Lib.hid hI; have HG := Lib.hid hg
  have hgl : g < w.heap.size := hg.lt
  clear hI hg
  go_enter Try.func36, Try.ntmps36
  go_wp2
  go_loopw [10, 7, 6] (fun i _ _ wr => ∃ k : Nat, k ≤ l.length ∧ i = .int .i64 k ∧ Hid (∀ j, j < k → (fun m => MM.lt n m.name) (MM.mAt l j) = false) ∧ Hid (Below w.heap.size w wr)) (fun i _ _ _ => l.length - (intOf i).toNat)
  case atStart => exact ⟨0, by omega, rfl, Lib.hid (fun j h => by omega), Lib.hid (Below.refl _ _)⟩
  case round =>
    obtain ⟨k, hk, rfl, HE, HB⟩ := hrel
    by_cases hlt : k < l.length
    · obtain ⟨b, off, A', cap', m, rfl, hb, HV, q1, q2, q3, q4, d0, d1, d2⟩ := (HI.out.below HB.out).get hlt
      have HB2 := Lib.hid (HB.out.alloc HB.out.size (.cells (memC m A' cap') 32))
      have C1 := Lib.hid (fun ww h => HC.out m A' cap' ww h)
      have HV2 : Hid ((fun m => MM.lt n m.name) (MM.mAt l k) = (fun m => MM.lt n m.name) m) := Lib.hid (by rw [HV.out])
      have HG2 := Lib.hid (HG.out.below HB2.out hgl)
      clear q1 q2 q3 q4 HC
      cases hp : (fun m => MM.lt n m.name) m
      · have hp' := hp
        simp only at hp'
        rw [hp'] at C1
        rw [hp] at HV2
        have HE2 : Hid (∀ j, j < k + 1 → (fun m => MM.lt n m.name) (MM.mAt l j) = false) := Lib.hid (fun j hj => by
          rcases Nat.lt_or_ge j k with gg | gg
          · exact HE.out j gg
          · obtain rfl : j = k := by omega
            exact HV2.out)
        clear hp hp'
        go_wp2_with fail
        refine (C1.out _ HG2.out).mono ?_
        rintro e w1 ⟨rfl, b1⟩
        have HB3 := Lib.hid (HB2.out.trans (b1.mono HB2.out.size))
        clear b1
        go_wp2_with fail
        go_roundw
        case rel => exact ⟨k + 1, by omega, by go_num, HE2, HB3⟩
        case measure => simp [intOf]; omega
      · have hp' := hp
        simp only at hp'
        rw [hp'] at C1
        have HX := Lib.hid (KY.out k hlt HE.out (HV2.out.trans hp))
        clear hp hp'
        go_wp2_with fail
        refine (C1.out _ HG2.out).mono ?_
        rintro e w1 ⟨rfl, b1⟩
        have HB3 := Lib.hid (HB2.out.trans (b1.mono HB2.out.size))
        clear b1
        go_wp2_with fail
        go_ret2
        exact ⟨by rw [HX.out.1, HX.out.2] <;> rfl, HB3.out⟩
    · obtain rfl : k = l.length := by omega
      have HX := Lib.hid (KN.out HE.out)
      go_wp2_with fail
      go_ret2
      exact ⟨by rw [HX.out.1, HX.out.2] <;> rfl, HB.out⟩

set_option maxHeartbeats 4000000 in
theorem aplace1_any (A : Option Addr) (l : List MM.Ac) (cap g : Nat) (n : ByteArray) (w : World) (hI : Accs w A l) (hg : CB w g 9 #[.string n]) :
    Calls Try.prog 47 #[.slice A l.length cap, .func (.func 48) #[] #[.pointer (some ⟨g, 0, none⟩)]] w fun e w' => e = .returned (.tuple #[.int .i64 ((MM.at_ (fun m => MM.eq m.name n) l : Nat) : Int), .bool (l.findIdx? (fun m => MM.eq m.name n)).isSome]) ∧ Below w.heap.size w w' := by
  have hlen : l.length ≤ 9223372036854775807 := hI.len
  have KY := Lib.hid (fun k => @ahit l (fun m => MM.eq m.name n) k); have KN := Lib.hid (@amiss l (fun m => MM.eq m.name n))
  have HC := Lib.hid (fun (a : MM.Ac) ww h => aname_any a g n ww h)
  generalize MM.at_ (fun m => MM.eq m.name n) l = x at *
  generalize (l.findIdx? (fun m => MM.eq m.name n)).isSome = y at *
  have HI := Lib.hid hI; have HG := Lib.hid hg
  have hgl : g < w.heap.size := hg.lt
  clear hI hg
  go_enter Try.func47, Try.ntmps47
  go_wp2
  go_loopw [10, 7, 6] (fun i _ _ wr => ∃ k : Nat, k ≤ l.length ∧ i = .int .i64 k ∧ Hid (∀ j, j < k → (fun m => MM.eq m.name n) (aAt l j) = false) ∧ Hid (Below w.heap.size w wr)) (fun i _ _ _ => l.length - (intOf i).toNat)
  case atStart => exact ⟨0, by omega, rfl, Lib.hid (fun j h => by omega), Lib.hid (Below.refl _ _)⟩
  case round =>
    obtain ⟨k, hk, rfl, HE, HB⟩ := hrel
    by_cases hlt : k < l.length
    · obtain ⟨b, off, m, rfl, hb, HV, ⟨q1, q2⟩, d0, d1⟩ := accs_get (HI.out.below HB.out) hlt
      have HB2 := Lib.hid (HB.out.alloc HB.out.size (.cells (accC m) 36))
      have C1 := Lib.hid (fun ww h => HC.out m ww h)
      have HV2 : Hid ((fun m => MM.eq m.name n) (aAt l k) = (fun m => MM.eq m.name n) m) := Lib.hid (by rw [HV.out])
      have HG2 := Lib.hid (HG.out.below HB2.out hgl)
      clear q1 q2 HC
      cases hp : (fun m => MM.eq m.name n) m
      · have hp' := hp
        simp only at hp'
        rw [hp'] at C1
        rw [hp] at HV2
        have HE2 : Hid (∀ j, j < k + 1 → (fun m => MM.eq m.name n) (aAt l j) = false) := Lib.hid (fun j hj => by
          rcases Nat.lt_or_ge j k with gg | gg
          · exact HE.out j gg
          · obtain rfl : j = k := by omega
            exact HV2.out)
        clear hp hp'
        go_wp2_with fail
        refine (C1.out _ HG2.out).mono ?_
        rintro e w1 ⟨rfl, b1⟩
        have HB3 := Lib.hid (HB2.out.trans (b1.mono HB2.out.size))
        clear b1
        go_wp2_with fail
        go_roundw
        case rel => exact ⟨k + 1, by omega, by go_num, HE2, HB3⟩
        case measure => simp [intOf]; omega
      · have hp' := hp
        simp only at hp'
        rw [hp'] at C1
        have HX := Lib.hid (KY.out k hlt HE.out (HV2.out.trans hp))
        clear hp hp'
        go_wp2_with fail
        refine (C1.out _ HG2.out).mono ?_
        rintro e w1 ⟨rfl, b1⟩
        have HB3 := Lib.hid (HB2.out.trans (b1.mono HB2.out.size))
        clear b1
        go_wp2_with fail
        go_ret2
        exact ⟨by rw [HX.out.1, HX.out.2] <;> rfl, HB3.out⟩
    · obtain rfl : k = l.length := by omega
      have HX := Lib.hid (KN.out HE.out)
      go_wp2_with fail
      go_ret2
      exact ⟨by rw [HX.out.1, HX.out.2] <;> rfl, HB.out⟩

set_option maxHeartbeats 4000000 in
theorem aplace2_any (A : Option Addr) (l : List MM.Ac) (cap g : Nat) (c : MM.Ac) (w : World) (hI : Accs w A l) (hg : CB w g 36 (accC c)) :
    Calls Try.prog 47 #[.slice A l.length cap, .func (.func 54) #[] #[.pointer (some ⟨g, 0, none⟩)]] w fun e w' => e = .returned (.tuple #[.int .i64 ((MM.at_ (fun m => MM.lt c.name m.name) l : Nat) : Int), .bool (l.findIdx? (fun m => MM.lt c.name m.name)).isSome]) ∧ Below w.heap.size w w' := by
  have hlen : l.length ≤ 9223372036854775807 := hI.len
  have KY := Lib.hid (fun k => @ahit l (fun m => MM.lt c.name m.name) k); have KN := Lib.hid (@amiss l (fun m => MM.lt c.name m.name))
  have HC := Lib.hid (fun (a : MM.Ac) ww h => aopen_any c a g ww h)
  generalize MM.at_ (fun m => MM.lt c.name m.name) l = x at *
  generalize (l.findIdx? (fun m => MM.lt c.name m.name)).isSome = y at *
  have HI := Lib.hid hI; have HG := Lib.hid hg
  have hgl : g < w.heap.size := hg.lt
  clear hI hg
  go_enter Try.func47, Try.ntmps47
  go_wp2
  go_loopw [10, 7, 6] (fun i _ _ wr => ∃ k : Nat, k ≤ l.length ∧ i = .int .i64 k ∧ Hid (∀ j, j < k → (fun m => MM.lt c.name m.name) (aAt l j) = false) ∧ Hid (Below w.heap.size w wr)) (fun i _ _ _ => l.length - (intOf i).toNat)
  case atStart => exact ⟨0, by omega, rfl, Lib.hid (fun j h => by omega), Lib.hid (Below.refl _ _)⟩
  case round =>
    obtain ⟨k, hk, rfl, HE, HB⟩ := hrel
    by_cases hlt : k < l.length
    · obtain ⟨b, off, m, rfl, hb, HV, ⟨q1, q2⟩, d0, d1⟩ := accs_get (HI.out.below HB.out) hlt
      have HB2 := Lib.hid (HB.out.alloc HB.out.size (.cells (accC m) 36))
      have C1 := Lib.hid (fun ww h => HC.out m ww h)
      have HV2 : Hid ((fun m => MM.lt c.name m.name) (aAt l k) = (fun m => MM.lt c.name m.name) m) := Lib.hid (by rw [HV.out])
      have HG2 := Lib.hid (HG.out.below HB2.out hgl)
      clear q1 q2 HC
      cases hp : (fun m => MM.lt c.name m.name) m
      · have hp' := hp
        simp only at hp'
        rw [hp'] at C1
        rw [hp] at HV2
        have HE2 : Hid (∀ j, j < k + 1 → (fun m => MM.lt c.name m.name) (aAt l j) = false) := Lib.hid (fun j hj => by
          rcases Nat.lt_or_ge j k with gg | gg
          · exact HE.out j gg
          · obtain rfl : j = k := by omega
            exact HV2.out)
        clear hp hp'
        go_wp2_with fail
        refine (C1.out _ HG2.out).mono ?_
        rintro e w1 ⟨rfl, b1⟩
        have HB3 := Lib.hid (HB2.out.trans (b1.mono HB2.out.size))
        clear b1
        go_wp2_with fail
        go_roundw
        case rel => exact ⟨k + 1, by omega, by go_num, HE2, HB3⟩
        case measure => simp [intOf]; omega
      · have hp' := hp
        simp only at hp'
        rw [hp'] at C1
        have HX := Lib.hid (KY.out k hlt HE.out (HV2.out.trans hp))
        clear hp hp'
        go_wp2_with fail
        refine (C1.out _ HG2.out).mono ?_
        rintro e w1 ⟨rfl, b1⟩
        have HB3 := Lib.hid (HB2.out.trans (b1.mono HB2.out.size))
        clear b1
        go_wp2_with fail
        go_ret2
        exact ⟨by rw [HX.out.1, HX.out.2] <;> rfl, HB3.out⟩
    · obtain rfl : k = l.length := by omega
      have HX := Lib.hid (KN.out HE.out)
      go_wp2_with fail
      go_ret2
      exact ⟨by rw [HX.out.1, HX.out.2] <;> rfl, HB.out⟩

/-- the place, and whether there is one -/
def plN (o : Option Nat) (n : Nat) : Int := ((o.getD n : Nat) : Int)
set_option maxHeartbeats 2000000 in
theorem mpl_any (A : Option Addr) (l : List MM.Mem) (cap : Nat) (n : ByteArray) (w : World) (hI : Mems w A l) :
    Calls Try.prog 30 #[.slice A l.length cap, .string n] w fun e w' => e = .returned (.tuple #[.int .i64 (plN (MM.pl l n) l.length), .bool (MM.pl l n).isSome]) ∧ Below w.heap.size w w' := by
  have hmf : ∀ (fn : Fn) (first cap : Array Value) (w : World), (Instr.makeFunc fn first cap).run Try.prog w = .ok (.func fn first cap) w := fun _ _ _ _ => rfl
  have HB0 := Lib.hid ((Below.refl w.heap.size w).alloc (Nat.le_refl _) (.cells #[.string n] 9))
  have C := Lib.hid (mplace1_any A l cap w.heap.size n _ (hI.below HB0.out) (CB.new w 9 #[.string n]))
  have E : plN (MM.pl l n) l.length = ((MM.at_ (fun m => MM.eq m.name n) l : Nat) : Int) := rfl
  have E2 : (MM.pl l n).isSome = (l.findIdx? (fun m => MM.eq m.name n)).isSome := rfl
  rw [E, E2]
  generalize MM.at_ (fun m => MM.eq m.name n) l = x at *
  generalize (l.findIdx? (fun m => MM.eq m.name n)).isSome = y at *
  clear hI E E2
  go_enter Try.func30, Try.ntmps30
  go_wp2_with fail
  refine C.out.mono ?_
  rintro e w1 ⟨rfl, b1⟩
  have HB1 := Lib.hid (HB0.out.trans (b1.mono HB0.out.size))
  clear b1
  go_wp2_with fail
  go_ret2
  exact ⟨rfl, HB1.out⟩
set_option maxHeartbeats 2000000 in
theorem apl_any (A : Option Addr) (l : List MM.Ac) (cap : Nat) (n : ByteArray) (w : World) (hI : Accs w A l) :
    Calls Try.prog 33 #[.slice A l.length cap, .string n] w fun e w' => e = .returned (.tuple #[.int .i64 (plN (MM.pa l n) l.length), .bool (MM.pa l n).isSome]) ∧ Below w.heap.size w w' := by
  have hmf : ∀ (fn : Fn) (first cap : Array Value) (w : World), (Instr.makeFunc fn first cap).run Try.prog w = .ok (.func fn first cap) w := fun _ _ _ _ => rfl
  have HB0 := Lib.hid ((Below.refl w.heap.size w).alloc (Nat.le_refl _) (.cells #[.string n] 9))
  have C := Lib.hid (aplace1_any A l cap w.heap.size n _ (hI.below HB0.out) (CB.new w 9 #[.string n]))
  have E : plN (MM.pa l n) l.length = ((MM.at_ (fun m => MM.eq m.name n) l : Nat) : Int) := rfl
  have E2 : (MM.pa l n).isSome = (l.findIdx? (fun m => MM.eq m.name n)).isSome := rfl
  rw [E, E2]
  generalize MM.at_ (fun m : MM.Ac => MM.eq m.name n) l = x at *
  generalize (l.findIdx? (fun m => MM.eq m.name n)).isSome = y at *
  clear hI E E2
  go_enter Try.func33, Try.ntmps33
  go_wp2_with fail
  refine C.out.mono ?_
  rintro e w1 ⟨rfl, b1⟩
  have HB1 := Lib.hid (HB0.out.trans (b1.mono HB0.out.size))
  clear b1
  go_wp2_with fail
  go_ret2
  exact ⟨rfl, HB1.out⟩
end Go.Proofs.Ytlnllbcpbohahaa

/- 's = append(s, l...)', l a slice of records. Over any program. -/
namespace Go.Recs
open Go.RowKit
set_option linter.unusedVariables false
set_option linter.unusedSimpArgs false

theorem run_catR {P : Program} (w : World) (B : Nat) (rows more : List (List Value)) (ts t ty : TypeId) (sz bytes : Nat) (z : Value)
    (hu : P.underlying ts = some (.slice t)) (hinfo : (P.info? t).map (fun i => (i.zero, i.size, i.bytes)) = some (some z, sz, bytes)) (hz : z.cells.size = sz) (h0 : 0 < sz)
    (v : Value) (hown : OwnR w B t sz v rows) (A : Option Addr) (c : Nat) (hm : Recs w A sz more) (h1 : ∀ r ∈ more, ∀ u ∈ r, u.oneCell' = true)
    (hl : (rows.length + more.length) * bytes ≤ 140737488355328) (hmx : rows.length + more.length ≤ maxLen) (hB : B ≤ w.heap.size) :
    ∃ v' w', (Builtin.append_ #[ts, ts] ty #[v, .slice A more.length c]).run P w = .ok v' w' ∧ OwnR w' B t sz v' (rows ++ more) ∧ w.grownBy w' v.ownBlock := by
  obtain ⟨i0, hi, hz0, hz1, hz2⟩ := info_parts hinfo
  have hrr : ∀ r ∈ rows ++ more, r.length = sz := by
    intro r hr
    rcases List.mem_append.1 hr with hr | hr
    · exact hown.1 r hr
    · exact hm.2.1 r hr
  have key : ∀ ad, A = some ad → ∃ v' w', (Builtin.append_ #[ts, ts] ty #[v, .slice A more.length c]).run P w = .ok v' w' ∧ OwnR w' B t sz v' (rows ++ more) ∧ w.grownBy w' v.ownBlock := by
    rintro ad rfl
    have hcells : ∀ j u, more.flatten[j]? = some u → w.cell? (ad.add j) = some u := by
      intro j u hj
      rcases hm.2.2 with e | ⟨b, off, e, hb, hcell⟩
      · subst e; simp at hj
      · injection e with e
        subst e
        have hlt : j < more.flatten.length := by
          rcases Nat.lt_or_ge j more.flatten.length with h | h
          · exact h
          · rw [List.getElem?_eq_none h] at hj; cases hj
        rw [flat_len hm.2.1] at hlt
        have hi' : j / sz < more.length := Nat.div_lt_of_lt_mul (by rw [Nat.mul_comm]; exact hlt)
        have hj' : j % sz < sz := Nat.mod_lt _ h0
        have ej : j / sz * sz + j % sz = j := by rw [Nat.mul_comm]; exact Nat.div_add_mod j sz
        have e := flat_at hm.2.1 (j / sz) (j % sz) hi' hj'
        have e2 := hcell (j / sz) (j % sz) hi' hj'
        rw [ej] at e e2
        rw [add_at, e2, ← e, hj]
    obtain ⟨v', w', hr, h2, h3, _, _⟩ := run_append_own_at (P := P) w B ts ty t i0 z sz bytes hu hi hz0 hz1 hz2 hz h0 v rows.length rows.flatten hown.2 ad more.length c more.flatten
      (flat_len hm.2.1) hcells (fun u hu => by obtain ⟨r, hr, hur⟩ := List.mem_flatten.1 hu; exact h1 r hr u hur) hmx hl hB
    refine ⟨v', w', hr, ⟨hrr, ?_⟩, h3⟩
    rw [List.length_append, List.flatten_append]
    exact h2
  cases A with
  | some ad => exact key ad rfl
  | none =>
    have : more = [] := by
      rcases hm.2.2 with h | ⟨b, off, e, _⟩
      · exact h
      · cases e
    subst this
    refine ⟨v, w, ?_, by simpa using hown, World.grownBy.refl w _⟩
    rcases hown.form with ⟨hv, _⟩ | ⟨g, cap, hv, _, _, hnc⟩ <;> rw [hv]
    · simp [Builtin.append_, run_underlying hu, sizeOf, typeInfo, hi, Builtin.lenOf, Builtin.firstCells]
    · simp [Builtin.append_, run_underlying hu, sizeOf, typeInfo, hi, Builtin.lenOf, Builtin.firstCells, storeCells]
      omega

theorem wpList_catR {P : Program} {ops : Array Oper} {rest : List Oper} {o : Oper} {a : Act} {Q : Exit → Act → World → Prop} (w : World) (B : Nat) (rows more : List (List Value)) (x y : Operand) (ts t : TypeId) (sz bytes : Nat) (z : Value)
    (hu : P.underlying ts = some (.slice t)) (hinfo : (P.info? t).map (fun i => (i.zero, i.size, i.bytes)) = some (some z, sz, bytes)) (hz : z.cells.size = sz) (h0 : 0 < sz)
    (hgd : o.guard = none) (ho : o.op = .call { callee := .builtin .append, args := #[x, y], argTypes := #[ts, ts] })
    (v : Value) (A : Option Addr) (n c : Nat) (hs : a.eval x = v) (hx : a.eval y = .slice A n c) (hn : n = more.length) (hown : OwnR w B t sz v rows) (hm : Recs w A sz more) (h1 : ∀ r ∈ more, ∀ u ∈ r, u.oneCell' = true)
    (hl : (rows.length + more.length) * bytes ≤ 140737488355328) (hmx : rows.length + more.length ≤ maxLen) (hB : B ≤ w.heap.size)
    (h : ∀ v' w', OwnR w' B t sz v' (rows ++ more) → Below B w w' → w.grownBy w' v.ownBlock → wpList P ops Q rest (a.put o.dst v') w') :
    wpList P ops Q (o :: rest) a w := by
  subst hn
  obtain ⟨v', w', hr, h2, h3⟩ := run_catR w B rows more ts t o.type sz bytes z hu hinfo hz h0 v hown A c hm h1 hl hmx hB
  refine wpList_plain hgd fun K hK => ?_
  unfold Oper.wp execOp
  simp only [ho, resolve, invoke, builtin, Sem.run_bind, Sem.run_pure, Result.andThen_ok, List.map_toArray, List.map_cons, List.map_nil, hs, hx, hr]
  exact hK _ _ (h v' w' h2 ((Below.refl B w).grown h3 hB (OwnR.block hown)) h3)
end Go.Recs
