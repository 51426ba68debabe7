/- Contracts of layer 11: Check, the program's. -/
import Derived.Test.YtlnllbcpbohahaaMemC
namespace Go.Proofs.Ytlnllbcpbohahaa
open Go.RowKit Go.Recs
set_option linter.unusedVariables false
set_option linter.unusedSimpArgs false

set_option maxHeartbeats 4000000 in
theorem one_any (m : MM.Mem) (A : Option Addr) (cap : Nat) (p : ByteArray) (w : World) (hn : m.name.size ≤ maxLen) (hI : Accs w A m.accs) :
    Calls Try.prog 27 #[memA m A cap, .string p] w fun e w' => e = .returned (.int .i64 (MM.memE p [m])) ∧ Below w.heap.size w w' := by
  have hlen : m.accs.length ≤ 9223372036854775807 := hI.len
  have HB0 := Lib.hid ((Below.refl w.heap.size w).alloc (Nat.le_refl _) (.cells (memC m A cap) 32))
  have HI := Lib.hid (hI.below HB0.out)
  have C0 := Lib.hid (fun ww => name_any m.name ww hn)
  have C1 := Lib.hid (fun ww => isStatus_any m.status ww)
  have C2 := Lib.hid (fun ww h => accs_any A m.accs cap ww h)
  have K1 := Lib.hid (@MM.mem_name p m []); have K2 := Lib.hid (@MM.mem_le p m []); have K3 := Lib.hid (@MM.mem_stat p m []); have K4 := Lib.hid (@MM.mem_long p m []); have K5 := Lib.hid (@MM.one_accs p m)
  have eN : MM.okN m.name = WM.name (L m.name) := rfl
  have hle : MM.le m.name p = (Op.bytesLess m.name.toList p.toList || m.name.toList == p.toList) := rfl
  rw [eN] at K1 K2 K3 K4 K5
  rw [hle] at K2 K3 K4 K5
  generalize MM.memE p [m] = r at *
  generalize WM.name (L m.name) = b0 at *
  generalize MM.statOk m.status = b1 at *
  generalize MM.accE MM.nil m.accs = ae at *
  clear hI eN hle hn
  go_enter Try.func27, Try.ntmps27
  go_wp2_with fail
  refine (C0.out _).mono ?_
  rintro e w1 ⟨rfl, rfl⟩
  cases b0
  · have HX := Lib.hid (K1.out (by trivial))
    go_wp2_with fail
    go_ret
    exact ⟨by rw [HX.out] <;> rfl, HB0.out⟩
  cases hl : (Op.bytesLess m.name.toList p.toList || m.name.toList == p.toList)
  · go_wp2_with fail
    refine (C1.out _).mono ?_
    rintro e w1 ⟨rfl, rfl⟩
    cases b1
    · have HX := Lib.hid (K3.out (by trivial) hl (by trivial))
      go_wp2_with fail
      go_ret
      exact ⟨by rw [HX.out] <;> rfl, HB0.out⟩
    by_cases h16 : 16 < m.accs.length
    · have HX := Lib.hid (K4.out (by trivial) hl (by trivial) h16)
      go_wp2_with fail
      go_ret
      exact ⟨by rw [HX.out] <;> rfl, HB0.out⟩
    · have HX := Lib.hid (K5.out (by trivial) hl (by trivial) h16)
      go_wp2_with fail
      refine (C2.out _ HI.out).mono ?_
      rintro e w1 ⟨rfl, b1⟩
      have HB1 := Lib.hid (HB0.out.trans (b1.mono HB0.out.size))
      clear b1
      go_wp2_with fail
      go_ret
      exact ⟨by rw [HX.out] <;> rfl, HB1.out⟩
  · have HX := Lib.hid (K2.out (by trivial) hl)
    go_wp2_with fail
    go_ret
    exact ⟨by rw [HX.out] <;> rfl, HB0.out⟩

set_option maxHeartbeats 4000000 in
theorem mcheck_any (A : Option Addr) (l : List MM.Mem) (cap : Nat) (w : World) (hI : Mems w A l) :
    Calls Try.prog 7 #[.slice A l.length cap] w fun e w' => e = .returned (.int .i64 (MM.checkE l)) ∧ Below w.heap.size w w' := by
  have hlen : l.length ≤ 9223372036854775807 := hI.len
  by_cases h32 : 32 < l.length
  · rw [show MM.checkE l = 8 from if_pos h32]
    clear hI
    go_enter Try.func7, Try.ntmps7
    go_wp2
    go_ret
    exact ⟨rfl, Below.refl _ _⟩
  rw [show MM.checkE l = MM.memE MM.nil l from if_neg h32]
  have K0 := Lib.hid (fun k => @drop_mem l k)
  have HE0 : Hid (MM.memE MM.nil l = MM.memE MM.nil (l.drop 0)) := Lib.hid (by rw [List.drop_zero])
  have HZ : Hid (∀ p, MM.memE p (l.drop l.length) = 0) := Lib.hid (fun p => by rw [List.drop_length]; rfl)
  generalize MM.memE MM.nil l = r at *
  have HI := Lib.hid hI
  clear hI
  go_enter Try.func7, Try.ntmps7
  go_wp2
  go_loopw [12, 5, 3, 6] (fun i _ pv _ wr => ∃ k : Nat, ∃ p : ByteArray, k ≤ l.length ∧ i = .int .i64 k ∧ pv = .string p ∧ Hid (r = MM.memE p (l.drop k)) ∧ Hid (Below w.heap.size w wr)) (fun i _ _ _ _ => l.length - (intOf i).toNat)
  case atStart => exact ⟨0, MM.nil, by omega, rfl, rfl, HE0, Lib.hid (Below.refl _ _)⟩
  case round =>
    obtain ⟨k, p, hk, rfl, rfl, HE, HB⟩ := hrel
    by_cases hlt : k < l.length
    · obtain ⟨b, off, A', cap', m, rfl, hb, HV, q1, q2, q3, q4, d0, d1, d2⟩ := (HI.out.below HB.out).get hlt
      have HD := Lib.hid (K0.out k hlt)
      rw [HV.out] at HD
      have HB2 := Lib.hid (HB.out.alloc HB.out.size (.cells (memC m A' cap') 32))
      have HQ := Lib.hid (q3.below ((Below.refl wr.heap.size wr).alloc (Nat.le_refl _) (.cells (memC m A' cap') 32)))
      have HM := Lib.hid (CB.new wr 32 (memC m A' cap'))
      have C0 := Lib.hid (fun ww h => one_any m A' cap' p ww q1 h)
      have K1 := Lib.hid (MM.mem_one p m (l.drop (k + 1)))
      rw [← HD.out, ← HE.out] at K1
      generalize MM.memE p [m] = x at *
      clear q1 q2 q3 q4 HD
      go_wp2_with fail
      refine (C0.out _ HQ.out).mono ?_
      rintro e w1 ⟨rfl, b1⟩
      have HB3 := Lib.hid (HB2.out.trans (b1.mono HB2.out.size))
      have c0 : w1.cell? ⟨wr.heap.size, 0, none⟩ = some (.string m.name) := (HM.out.below b1 HM.out.lt).cell 0
      clear b1 HM HQ HB2
      by_cases hx : x = 0
      · subst hx
        have HX : Hid (r = MM.memE m.name (l.drop (k + 1))) := Lib.hid (by rw [K1.out]; simp)
        go_wp2_with fail
        go_roundw
        case rel => exact ⟨k + 1, m.name, by omega, by go_num, rfl, HX, HB3⟩
        case measure => simp [intOf]; omega
      · have hx2 : (x != 0) = true := by simpa using hx
        have HX : Hid (r = x) := Lib.hid (by rw [K1.out, if_pos hx])
        go_wp2_with fail
        go_ret
        exact ⟨by rw [HX.out] <;> rfl, HB3.out⟩
    · obtain rfl : k = l.length := by omega
      have HX : Hid (r = 0) := Lib.hid (HE.out.trans (HZ.out p))
      go_wp2_with fail
      go_ret
      exact ⟨by rw [HX.out] <;> rfl, HB.out⟩

set_option maxHeartbeats 4000000 in
theorem rmcheck_any (A : Option Addr) (l : List MM.Mem) (cap : Nat) (w : World) (hI : Mems w A l) :
    Calls Try.prog 8 #[.slice A l.length cap] w fun e w' => e = .returned (.int .i64 (MM.checkE l)) ∧ Below w.heap.size w w' := by
  have hlen : l.length ≤ 9223372036854775807 := hI.len
  by_cases h32 : 32 < l.length
  · rw [show MM.checkE l = 8 from if_pos h32]
    clear hI
    go_enter Try.func8, Try.ntmps8
    go_wp2
    go_ret
    exact ⟨rfl, Below.refl _ _⟩
  rw [show MM.checkE l = MM.memE MM.nil l from if_neg h32]
  have K0 := Lib.hid (fun k => @drop_mem l k)
  have HE0 : Hid (MM.memE MM.nil l = MM.memE MM.nil (l.drop 0)) := Lib.hid (by rw [List.drop_zero])
  have HZ : Hid (∀ p, MM.memE p (l.drop l.length) = 0) := Lib.hid (fun p => by rw [List.drop_length]; rfl)
  generalize MM.memE MM.nil l = r at *
  have HI := Lib.hid hI
  clear hI
  go_enter Try.func8, Try.ntmps8
  go_wp2
  go_loopw [3, 4] (fun i _ wr => ∃ k : Nat, ∃ p : ByteArray, k ≤ l.length ∧ i = .int .i64 k ∧ Hid (r = MM.memE p (l.drop k)) ∧ Hid (k = 0 → p = MM.nil) ∧ Hid (∀ j, k = j + 1 → p = (MM.mAt l j).name) ∧ Hid (Below w.heap.size w wr)) (fun i _ _ => l.length - (intOf i).toNat)
  case atStart => exact ⟨0, MM.nil, by omega, rfl, HE0, Lib.hid (fun _ => rfl), Lib.hid (fun j h => by omega), Lib.hid (Below.refl _ _)⟩
  case round =>
    obtain ⟨k, p, hk, rfl, HE, HP0, HP1, HB⟩ := hrel
    by_cases hlt : k < l.length
    · obtain ⟨b, off, A', cap', m, rfl, hb, HV, q1, q2, q3, q4, d0, d1, d2⟩ := (HI.out.below HB.out).get hlt
      have HD := Lib.hid (K0.out k hlt)
      rw [HV.out] at HD
      have C0 := Lib.hid (fun ww => rname_any m.name ww q1)
      have C1 := Lib.hid (fun ww h => raccs_any A' m.accs cap' ww h)
      have HQ := Lib.hid q3
      have K1 := Lib.hid (@MM.mem_name p m (l.drop (k + 1))); have K2 := Lib.hid (@MM.mem_le p m (l.drop (k + 1))); have K3 := Lib.hid (@MM.mem_stat p m (l.drop (k + 1)))
      have K4 : Hid (MM.okN m.name = true → MM.le m.name p = false → MM.statOk m.status = true → MM.memE p (m :: l.drop (k + 1)) = if accsE m.accs ≠ 0 then accsE m.accs else MM.memE m.name (l.drop (k + 1))) := Lib.hid (fun h1 h2 h3 => by
        unfold accsE
        by_cases h4 : 16 < m.accs.length
        · rw [MM.mem_long h1 h2 h3 h4, if_pos h4]; rfl
        · rw [if_neg h4]
          by_cases h5 : MM.accE MM.nil m.accs = 0
          · rw [MM.mem_next h1 h2 h3 h4 h5, h5]; rfl
          · rw [MM.mem_accs h1 h2 h3 h4 h5, if_pos h5])
      rw [← HD.out] at K1 K2 K3 K4
      rw [← HE.out] at K1 K2 K3 K4
      have KOK := Lib.hid (@MM.ok_le m.name)
      have eN : MM.okN m.name = WM.name (L m.name) := rfl
      rw [eN] at K1 K2 K3 K4 KOK
      generalize WM.name (L m.name) = b0 at *
      generalize accsE m.accs = ae at *
      have HV2 : Hid (∀ j, k + 1 = j + 1 → m.name = (MM.mAt l j).name) := Lib.hid (fun j hj => by
        obtain rfl : k = j := by omega
        rw [HV.out])
      clear q1 q2 q3 q4 eN HD
      go_wp2_with fail
      refine (C0.out _).mono ?_
      rintro e w1 ⟨rfl, rfl⟩
      cases b0
      · have HX := Lib.hid (K1.out (by trivial))
        go_wp2_with fail
        go_ret
        exact ⟨by rw [HX.out] <;> rfl, HB.out⟩
      have hkk : k = 0 ∨ ∃ j, k = j + 1 := by
        cases k with
        | zero => exact .inl rfl
        | succ j => exact .inr ⟨j, rfl⟩
      have hkd : MM.statOk m.status = true ∧ (1 ≤ m.status ∧ m.status ≤ 4) ∨ MM.statOk m.status = false ∧ (m.status < 1 ∨ (1 ≤ m.status ∧ 4 < m.status)) := by
        unfold MM.statOk
        by_cases g1 : 1 ≤ m.status <;> by_cases g2 : m.status ≤ 4 <;> simp [g1, g2] <;> omega
      generalize MM.statOk m.status = b1 at *
      rcases hkk with rfl | ⟨j, rfl⟩
      · obtain rfl := HP0.out rfl
        have hl := KOK.out (by trivial)
        rcases hkd with ⟨rfl, g1, g2⟩ | ⟨rfl, g | ⟨g1, g2⟩⟩
        · have HX := Lib.hid (K4.out (by trivial) hl (by trivial))
          clear hl K1 K2 K3 K4
          go_wp2_with fail
          go_quiet (fail)
          have HB1 := Lib.hid (below_drewN HB.out nq)
          have HQ1 := Lib.hid (HQ.out.drewN nq)
          have e0 : (wr.drewN nq).cell? ⟨b, off + 0 * 3 + 1, none⟩ = some (.int .i64 m.status) := d1
          have e1 : (wr.drewN nq).cell? ⟨b, off + 0 * 3 + 2, none⟩ = some (.slice A' m.accs.length cap') := d2
          have hb1 : b < (wr.drewN nq).heap.size := hb
          clear HB HQ d0 d1 d2 hb
          generalize wr.drewN nq = w1 at *
          go_wp2_with fail
          refine (C1.out _ HQ1.out).mono ?_
          rintro e w2 ⟨rfl, b2⟩
          have HB2 := Lib.hid (HB1.out.trans (b2.mono HB1.out.size))
          clear b2
          by_cases hx : ae = 0
          · subst hx
            have HX2 : Hid (r = MM.memE m.name (l.drop (0 + 1))) := Lib.hid (by rw [HX.out]; simp)
            go_wp2_with fail
            go_roundw
            case rel => exact ⟨0 + 1, m.name, by omega, by go_num, HX2, Lib.hid (fun h => by omega), HV2, HB2⟩
            case measure => simp [intOf]; omega
          · have hx2 : (ae != 0) = true := by simpa using hx
            have HX2 : Hid (r = ae) := Lib.hid (by rw [HX.out, if_pos hx])
            go_wp2_with fail
            go_ret
            exact ⟨by rw [HX2.out] <;> rfl, HB2.out⟩
        all_goals (
          have HX := Lib.hid (K3.out (by trivial) hl (by trivial))
          clear hl
          go_wp2_with fail
          go_quiet (fail)
          go_wp2_with fail
          go_ret
          exact ⟨by rw [HX.out] <;> rfl, by first | exact HB.out | exact below_drewN HB.out _⟩)
      · have HPV := Lib.hid (HP1.out j rfl)
        obtain ⟨b', off', A2, cap2, a', e', hb', HV', q1', q2', q3', q4', d0', d1', d2'⟩ := (HI.out.below HB.out).get (show j < l.length by omega)
        injection e' with e'
        injection e' with e1 e2
        subst e1 e2
        have hp : p = a'.name := by rw [HPV.out, HV'.out]
        subst hp
        have hw : wrap64 (((j + 1 : Nat) : Int) - 1) = (j : Int) := by rw [show ((j + 1 : Nat) : Int) - 1 = (j : Int) by omega]; exact IntWalk.wrap64_in _ (by omega)
        have hle : MM.le m.name a'.name = (Op.bytesLess m.name.toList a'.name.toList || m.name.toList == a'.name.toList) := rfl
        rw [hle] at K2 K3 K4
        clear hle q1' q2' q3' q4' d1' d2' hb'
        cases hl : (Op.bytesLess m.name.toList a'.name.toList || m.name.toList == a'.name.toList)
        · rcases hkd with ⟨rfl, g1, g2⟩ | ⟨rfl, g | ⟨g1, g2⟩⟩
          · have HX := Lib.hid (K4.out (by trivial) hl (by trivial))
            clear K1 K2 K3 K4
            go_wp2_with fail
            go_quiet (fail)
            have HB1 := Lib.hid (below_drewN HB.out nq)
            have HQ1 := Lib.hid (HQ.out.drewN nq)
            have e0 : (wr.drewN nq).cell? ⟨b, off + (j + 1) * 3 + 1, none⟩ = some (.int .i64 m.status) := d1
            have e1 : (wr.drewN nq).cell? ⟨b, off + (j + 1) * 3 + 2, none⟩ = some (.slice A' m.accs.length cap') := d2
            have hb1 : b < (wr.drewN nq).heap.size := hb
            clear HB HQ d0 d1 d2 hb d0' hl
            generalize wr.drewN nq = w1 at *
            go_wp2_with fail
            refine (C1.out _ HQ1.out).mono ?_
            rintro e w2 ⟨rfl, b2⟩
            have HB2 := Lib.hid (HB1.out.trans (b2.mono HB1.out.size))
            clear b2
            by_cases hx : ae = 0
            · subst hx
              have HX2 : Hid (r = MM.memE m.name (l.drop (j + 1 + 1))) := Lib.hid (by rw [HX.out]; simp)
              go_wp2_with fail
              go_roundw
              case rel => exact ⟨j + 1 + 1, m.name, by omega, by go_num, HX2, Lib.hid (fun h => by omega), HV2, HB2⟩
              case measure => simp [intOf]; omega
            · have hx2 : (ae != 0) = true := by simpa using hx
              have HX2 : Hid (r = ae) := Lib.hid (by rw [HX.out, if_pos hx])
              go_wp2_with fail
              go_ret
              exact ⟨by rw [HX2.out] <;> rfl, HB2.out⟩
          all_goals (
            have HX := Lib.hid (K3.out (by trivial) hl (by trivial))
            go_wp2_with fail
            go_quiet (fail)
            go_wp2_with fail
            go_ret
            exact ⟨by rw [HX.out] <;> rfl, by first | exact HB.out | exact below_drewN HB.out _⟩)
        · have HX := Lib.hid (K2.out (by trivial) hl)
          go_wp2_with fail
          go_quiet (fail)
          go_wp2_with fail
          go_ret
          exact ⟨by rw [HX.out] <;> rfl, by first | exact HB.out | exact below_drewN HB.out _⟩
    · obtain rfl : k = l.length := by omega
      have HX : Hid (r = 0) := Lib.hid (HE.out.trans (HZ.out p))
      go_wp2_with fail
      go_ret
      exact ⟨by rw [HX.out] <;> rfl, HB.out⟩
end Go.Proofs.Ytlnllbcpbohahaa
