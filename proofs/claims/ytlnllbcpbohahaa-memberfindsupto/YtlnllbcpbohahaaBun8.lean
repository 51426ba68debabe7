/- Put together: MemU, MemV, MemW, MemX, MemY, MemZ, WMemberFinds, OpenMem. -/
import Derived.Test.YtlnllbcpbohahaaBun7
import Derived.Deep.RegionHeld3
import Derived.Test.YtlnllbcpbohahaaBun3
import Derived.ProofKit
import Derived.OpenShut
import Derived.ShutString
import Derived.ChangeOld
/- Contracts of layer 11: the reference's One and Same, of equal members. -/
namespace Go.Proofs.Ytlnllbcpbohahaa
open Go.RowKit Go.Recs
set_option linter.unusedVariables false
set_option linter.unusedSimpArgs false
def aeq (x y : MM.Ac) : Bool := (x.name.toList == y.name.toList) && (x.kind == y.kind)
theorem acc_in (x y : MM.Ac) (w : World) : (Op.equalIn 10000 36 (accA x) (accA y)).run Try.prog w = .ok (aeq x y) w := by
  have u3 := Try.underlying3
  have u9 := Try.underlying9
  have a3 := Try.isAgg3
  have a9 := Try.isAgg9
  have z3 := Try.sizeOf3
  have z9 := Try.sizeOf9
  have hS : Try.prog.underlying 36 = some (.struct (Try.prog.fieldsOf 36)) := by kernel_rfl
  have hp : Try.prog.stoodInHeld 36 = false := by kernel_rfl
  rw [show (10000 : Nat) = 9999 + 1 from rfl, run_equalIn_agg w 9999 36 _ _ hS hp]
  simp only [Program.fieldsOf, Try.underlying36]
  unfold aeq
  go_simp
  by_cases h1 : x.name.toList = y.name.toList <;> by_cases h2 : x.kind = y.kind <;> simp [h1, h2]
theorem acc_guard : Try.prog.eqGuardType Try.prog.depth 36 = false := by kernel_rfl

set_option maxHeartbeats 4000000 in
theorem rone_same (m : MM.Mem) (A1 A2 : Option Addr) (p1 p2 : Nat) (w : World) (h1 : Accs w A1 m.accs) (h2 : Accs w A2 m.accs) :
    Calls Try.prog 14 #[memA m A1 p1, memA m A2 p2] w fun e w' => e = .returned (.bool true) ∧ Below w.heap.size w w' := by
  have hlen := h1.len
  have HB0 := Lib.hid (((Below.refl w.heap.size w).alloc (Nat.le_refl _) (.cells (memC m A1 p1) 32)).alloc (by simp) (.cells (memC m A2 p2) 32))
  have HG0 := Lib.hid ((CB.new w 32 (memC m A1 p1)).alloc (.cells (memC m A2 p2) 32))
  have HZ0 : Hid (CB ((w.alloc (.cells (memC m A1 p1) 32)).alloc (.cells (memC m A2 p2) 32)) (w.heap.size + 1) 32 (memC m A2 p2)) := Lib.hid (by
    have := CB.new (w.alloc (.cells (memC m A1 p1) 32)) 32 (memC m A2 p2)
    rw [show (w.alloc (.cells (memC m A1 p1) 32)).heap.size = w.heap.size + 1 by simp] at this
    exact this)
  have HA := Lib.hid (h1.below HB0.out); have HC := Lib.hid (h2.below HB0.out)
  have hgd := acc_guard
  clear h1 h2
  go_enter Try.func14, Try.ntmps14
  go_wp2_with fail
  generalize (w.alloc (.cells #[.string m.name, .int .i64 m.status, .slice A1 m.accs.length p1] 32)).alloc (.cells #[.string m.name, .int .i64 m.status, .slice A2 m.accs.length p2] 32) = w0 at *
  go_loopw [5] (fun i wr => ∃ k : Nat, k ≤ m.accs.length ∧ i = .int .i64 k ∧ Hid (Below w0.heap.size w0 wr)) (fun i _ => m.accs.length - (intOf i).toNat)
  case atStart => exact ⟨0, by omega, rfl, Lib.hid (Below.refl _ _)⟩
  case round =>
    obtain ⟨k, hk, rfl, HW⟩ := hrel
    have HB1 := Lib.hid (HB0.out.trans (HW.out.mono HB0.out.size))
    have HG1 := Lib.hid (HG0.out.below HW.out HG0.out.lt)
    have HZ1 := Lib.hid (HZ0.out.below HW.out HZ0.out.lt)
    have c2 : wr.cell? ⟨w.heap.size, 2, none⟩ = some (.slice A1 m.accs.length p1) := HG1.out.cell 2
    have e2 : wr.cell? ⟨w.heap.size + 1, 2, none⟩ = some (.slice A2 m.accs.length p2) := HZ1.out.cell 2
    have hz1 := HG1.out.lt; have hz2 := HZ1.out.lt
    by_cases hlt : k < m.accs.length
    · obtain ⟨b, off, x, rfl, hb, HV, q0, d0, d1⟩ := accs_get (HA.out.below HW.out) hlt
      obtain ⟨b', off', x', rfl, hb', HV', q0', g0, g1⟩ := accs_get (HC.out.below HW.out) hlt
      obtain rfl : x = x' := HV.out.symm.trans HV'.out
      have E1 : ∀ ww, (Op.equalIn 10000 36 (accA x) (accA x)).run Try.prog ww = .ok true ww := fun ww => by rw [acc_in]; simp [aeq]
      clear q0 q0' HV HV'
      go_wp2_with fail
      go_quiet (fail)
      go_wp2_with fail
      go_roundw
      case rel => exact ⟨k + 1, by omega, by go_num, Lib.hid (by first | exact HW.out | exact below_drewN HW.out _)⟩
      case measure => simp [intOf]; omega
    · obtain rfl : k = m.accs.length := by omega
      go_wp2_with fail
      go_ret
      exact ⟨rfl, HB1.out⟩

set_option maxHeartbeats 4000000 in
theorem rsamem_any (A B : Option Addr) (l : List MM.Mem) (cap cap2 : Nat) (w : World) (hA : Mems w A l) (hB : Mems w B l) :
    Calls Try.prog 26 #[.slice A l.length cap, .slice B l.length cap2] w fun e w' => e = .returned (.bool true) ∧ Below w.heap.size w w' := by
  have hlen := hA.len
  have HA := Lib.hid hA; have HBB := Lib.hid hB
  clear hA hB
  go_enter Try.func26, Try.ntmps26
  go_wp2_with fail
  go_loopw [5] (fun i wr => ∃ k : Nat, k ≤ l.length ∧ i = .int .i64 k ∧ Hid (Below w.heap.size w wr)) (fun i _ => l.length - (intOf i).toNat)
  case atStart => exact ⟨0, by omega, rfl, Lib.hid (Below.refl _ _)⟩
  case round =>
    obtain ⟨k, hk, rfl, HW⟩ := hrel
    by_cases hlt : k < l.length
    · obtain ⟨b, off, A', cap', m, rfl, hb, HV, q1, q2, q3, q4, d0, d1, d2⟩ := (HA.out.below HW.out).get hlt
      obtain ⟨b', off', A'', cap'', m', rfl, hb', HV', q1', q2', q3', q4', g0, g1, g2⟩ := (HBB.out.below HW.out).get hlt
      obtain rfl : m = m' := HV.out.symm.trans HV'.out
      have C := Lib.hid (fun ww h1 h2 => rone_same m A' A'' cap' cap'' ww h1 h2)
      have HQ := Lib.hid q3; have HQ' := Lib.hid q3'
      clear q1 q2 q3 q4 q1' q2' q3' q4' HV HV'
      go_wp2_with fail
      go_region_with (go_at_call 14; refine (C.out _ (HQ.out.below (Below.refl _ _).drew) (HQ'.out.below (Below.refl _ _).drew)).mono ?_; rintro e w3 ⟨rfl, b3⟩)
      all_goals (
        have HB3 : Hid (Below w.heap.size w w3) := Lib.hid (HW.out.drew.trans (b3.mono HW.out.drew.size))
        clear b3
        go_wp2_with fail
        go_roundw
        case rel => exact ⟨k + 1, by omega, by go_num, HB3⟩
        case measure => simp [intOf]; omega)
    · obtain rfl : k = l.length := by omega
      go_wp2_with fail
      go_ret
      exact ⟨rfl, HW.out⟩
end Go.Proofs.Ytlnllbcpbohahaa

/- Contracts of layer 11: Find. -/
namespace Go.Proofs.Ytlnllbcpbohahaa
open Go.RowKit Go.Recs
set_option linter.unusedVariables false
set_option linter.unusedSimpArgs false

set_option maxHeartbeats 4000000 in
theorem pfindm_any (A : Option Addr) (l : List MM.Mem) (cap : Nat) (n : ByteArray) (w : World) (hI : Mems w A l) (hz : ∀ m ∈ l, m.accs.length * 24 ≤ 140737488355328) :
    Calls Try.prog 10 #[.slice A l.length cap, .string n] w fun e w' => (∃ A' cap', e = .returned (.tuple #[memA (foundM l n) A' cap', .bool (MM.pl l n).isSome]) ∧ Accs w' A' (foundM l n).accs ∧ (foundM l n).accs.length ≤ cap') ∧ Below w.heap.size w w' := by
  have hlen := hI.len
  have HB0 := Lib.hid ((Below.refl w.heap.size w).alloc (Nat.le_refl _) (.cells #[.string ⟨#[]⟩, .int .i64 0, .slice none 0 0] 32))
  have HM0 := Lib.hid (CB.new w 32 #[.string ⟨#[]⟩, .int .i64 0, .slice none 0 0])
  have HI := Lib.hid (hI.below HB0.out)
  have HIW := Lib.hid hI
  have C2 := Lib.hid (fun ww h => mpl_any A l cap n ww h)
  clear hI
  cases hp : MM.pl l n with
  | none =>
    have ef : foundM l n = zeroM := by unfold foundM; rw [hp]
    rw [ef]
    rw [hp] at C2
    have ex : plN none l.length = (l.length : Int) := rfl
    rw [ex] at C2
    clear hp ef ex hz
    go_enter Try.func10, Try.ntmps10
    go_wp2_with fail
    refine (C2.out _ HI.out).mono ?_
    rintro e w2 ⟨rfl, b2⟩
    have HB2 := Lib.hid (HB0.out.trans (b2.mono HB0.out.size))
    have HM2 := Lib.hid (HM0.out.below b2 HM0.out.lt)
    have hlt : w.heap.size < w2.heap.size := HM2.out.lt
    have f0 := HM2.out.frozen 0; have f1 := HM2.out.frozen 1; have f2 := HM2.out.frozen 2
    have c0 := HM2.out.cell 0; have c1 := HM2.out.cell 1; have c2 := HM2.out.cell 2
    simp at c0 c1 c2
    clear b2
    go_wp2_with fail
    (try simp only [Exit.inBlock, Exit.then])
    refine bodyPost_ret (results_mem (m := zeroM) (A := none) (cap := 0) rfl _ _ _ rfl HM2.out.put3) rfl ⟨⟨none, 0, rfl, TR.nil _ _, Nat.le_refl _⟩, ?_⟩
    exact (((HB2.out.setCell (p := ⟨w.heap.size, 0, none⟩) (Nat.le_refl _) _).setCell (p := ⟨w.heap.size, 1, none⟩) (Nat.le_refl _) _).setCell (p := ⟨w.heap.size, 2, none⟩) (Nat.le_refl _) _)
  | some i =>
    obtain ⟨hi, -⟩ := MM.pl_some hp
    have ef : foundM l n = MM.mAt l i := by unfold foundM; rw [hp]
    rw [ef]
    rw [hp] at C2
    have ex : plN (some i) l.length = (i : Int) := rfl
    rw [ex] at C2
    have hzi := hz (MM.mAt l i) (by rw [MM.mAt_get hi]; exact List.getElem_mem hi)
    clear hp ef ex hz
    obtain ⟨b, off, A', cap', m, rfl, hb, HV, q1, q2, q3, q4, d0, d1, d2⟩ := HIW.out.get hi
    rw [HV.out] at hzi ⊢
    have HAP := Lib.hid (q3.apart (Nat.le_refl _))
    have HQ := Lib.hid q3
    have C3 := Lib.hid (fun ww h => aclone_any A' (m.accs.map accV) m.accs.length cap' ww (by simp) (accV_one _) h (by simpa using hzi))
    have hne : ¬ w.heap.size = b := by omega
    go_enter Try.func10, Try.ntmps10
    go_wp2_with fail
    refine (C2.out _ HI.out).mono ?_
    rintro e w2 ⟨rfl, b2⟩
    have HB2 := Lib.hid (HB0.out.trans (b2.mono HB0.out.size))
    have HM2 := Lib.hid (HM0.out.below b2 HM0.out.lt)
    have hlt : w.heap.size < w2.heap.size := HM2.out.lt
    have hb2 : b < w2.heap.size := by omega
    replace d0 := (HB2.out.cell (p := ⟨b, off + i * 3, none⟩) hb).trans d0
    replace d1 := (HB2.out.cell (p := ⟨b, off + i * 3 + 1, none⟩) hb).trans d1
    replace d2 := (HB2.out.cell (p := ⟨b, off + i * 3 + 2, none⟩) hb).trans d2
    have f0 := HM2.out.frozen 0; have f1 := HM2.out.frozen 1; have f2 := HM2.out.frozen 2
    have c0 := HM2.out.cell 0; have c1 := HM2.out.cell 1; have c2 := HM2.out.cell 2
    simp at c0 c1 c2
    have HM3 : Hid (CB (((w2.setCell ⟨w.heap.size, 0, none⟩ (.string m.name)).setCell ⟨w.heap.size, 1, none⟩ (.int .i64 m.status)).setCell ⟨w.heap.size, 2, none⟩ (.slice A' m.accs.length cap')) w.heap.size 32 (memC m A' cap')) := Lib.hid HM2.out.put3
    have HA3 : Hid (Accs (((w2.setCell ⟨w.heap.size, 0, none⟩ (.string m.name)).setCell ⟨w.heap.size, 1, none⟩ (.int .i64 m.status)).setCell ⟨w.heap.size, 2, none⟩ (.slice A' m.accs.length cap')) A' m.accs) := Lib.hid ((((HQ.out.below HB2.out).set_ HAP.out _).set_ HAP.out _).set_ HAP.out _)
    have HB3 : Hid (Below w.heap.size w (((w2.setCell ⟨w.heap.size, 0, none⟩ (.string m.name)).setCell ⟨w.heap.size, 1, none⟩ (.int .i64 m.status)).setCell ⟨w.heap.size, 2, none⟩ (.slice A' m.accs.length cap'))) := Lib.hid
      (((HB2.out.setCell (p := ⟨w.heap.size, 0, none⟩) (Nat.le_refl _) _).setCell (p := ⟨w.heap.size, 1, none⟩) (Nat.le_refl _) _).setCell (p := ⟨w.heap.size, 2, none⟩) (Nat.le_refl _) _)
    have HQ2 := Lib.hid HQ.out.2
    clear q1 q2 q3 q4 HV HIW HI b2 HB0 HM0 HB2 HAP hzi C2
    go_wp2_with fail
    refine (C3.out _ HA3.out.1).mono ?_
    rintro e w4 ⟨v4, rfl, hO, b4⟩
    obtain ⟨A9, cap9, rfl, hA9, hc9, hp9⟩ := own_accs hO HQ2.out
    have HM4 := Lib.hid (HM3.out.below b4 HM3.out.lt)
    have HA9 := Lib.hid ((((hA9.set_ (hp9 _ HM3.out.lt) (i := 2) (.slice A9 m.accs.length cap9)).set_ (hp9 _ HM3.out.lt) (i := 0) (.string m.name)).set_ (hp9 _ HM3.out.lt) (i := 1) (.int .i64 m.status)).set_ (hp9 _ HM3.out.lt) (i := 2) (.slice A9 m.accs.length cap9))
    have HB4 := Lib.hid (((((HB3.out.trans (b4.mono HB3.out.size)).setCell (p := ⟨w.heap.size, 2, none⟩) (Nat.le_refl _) (.slice A9 m.accs.length cap9)).setCell (p := ⟨w.heap.size, 0, none⟩) (Nat.le_refl _) (.string m.name)).setCell (p := ⟨w.heap.size, 1, none⟩) (Nat.le_refl _) (.int .i64 m.status)).setCell (p := ⟨w.heap.size, 2, none⟩) (Nat.le_refl _) (.slice A9 m.accs.length cap9))
    have HM5 : Hid (CB (w4.setCell ⟨w.heap.size, 2, none⟩ (.slice A9 m.accs.length cap9)) w.heap.size 32 (memC m A9 cap9)) := Lib.hid (by
      have := HM4.out.set_ 2 (.slice A9 m.accs.length cap9)
      simpa using this)
    have HM6 : Hid (CB ((((w4.setCell ⟨w.heap.size, 2, none⟩ (.slice A9 m.accs.length cap9)).setCell ⟨w.heap.size, 0, none⟩ (.string m.name)).setCell ⟨w.heap.size, 1, none⟩ (.int .i64 m.status)).setCell ⟨w.heap.size, 2, none⟩ (.slice A9 m.accs.length cap9)) w.heap.size 32 (memC m A9 cap9)) := Lib.hid HM5.out.put3
    have g2 : w4.cell? ⟨w.heap.size, 2, none⟩ = some (.slice A' m.accs.length cap') := HM4.out.cell 2
    have g1 : w4.cell? ⟨w.heap.size, 1, none⟩ = some (.int .i64 m.status) := HM4.out.cell 1
    have g0 : w4.cell? ⟨w.heap.size, 0, none⟩ = some (.string m.name) := HM4.out.cell 0
    have k0 := HM4.out.frozen 0; have k1 := HM4.out.frozen 1; have k2 := HM4.out.frozen 2
    have hlt4 : w.heap.size < w4.heap.size := HM4.out.lt
    clear d0 d1 d2 f0 f1 f2 c0 c1 c2 hO b4 hA9 hp9 HM3 HA3 HB3 HQ HQ2 C3 hb2 hb hne hlt HM2
    go_wp2_with fail
    (try simp only [Exit.inBlock, Exit.then])
    exact bodyPost_ret (results_mem (m := m) (A := A9) (cap := cap9) rfl _ _ _ rfl HM6.out) rfl ⟨⟨A9, cap9, rfl, HA9.out, hc9⟩, HB4.out⟩
end Go.Proofs.Ytlnllbcpbohahaa

/- Contracts of layer 11: Account. -/
namespace Go.Proofs.Ytlnllbcpbohahaa
open Go.RowKit Go.Recs
set_option linter.unusedVariables false
set_option linter.unusedSimpArgs false
theorem fa_none {l : List MM.Mem} {n a : ByteArray} (h : MM.pl l n = none) : foundA (foundM l n).accs a = ⟨MM.nil, 0⟩ ∧ (MM.pa (foundM l n).accs a).isSome = false := by
  have : foundM l n = zeroM := by unfold foundM; rw [h]
  rw [this]; exact ⟨rfl, rfl⟩
theorem fa_no {l : List MM.Ac} {a : ByteArray} (h : (MM.pa l a).isSome = false) : foundA l a = ⟨MM.nil, 0⟩ := by
  unfold foundA
  cases e : MM.pa l a with
  | none => rfl
  | some k => rw [e] at h; cases h
theorem fa_yes {l : List MM.Ac} {a : ByteArray} {k : Nat} (h : MM.pa l a = some k) : foundA l a = aAt l k := by unfold foundA; rw [h]

set_option maxHeartbeats 8000000 in
theorem pacc_any (A : Option Addr) (l : List MM.Mem) (cap : Nat) (n a : ByteArray) (w : World) (hI : Mems w A l) :
    Calls Try.prog 12 #[.slice A l.length cap, keyA n a] w fun e w' => e = .returned (.tuple #[accA (foundA (foundM l n).accs a), .bool (MM.pa (foundM l n).accs a).isSome]) ∧ Below w.heap.size w w' := by
  have hlen := hI.len
  have HB0 := Lib.hid (((Below.refl w.heap.size w).alloc (Nat.le_refl _) (.cells (keyC n a) 29)).alloc (by simp) (.cells #[.string ⟨#[]⟩, .int .i64 0] 36))
  have HG0 := Lib.hid ((CB.new w 29 (keyC n a)).alloc (.cells #[.string ⟨#[]⟩, .int .i64 0] 36))
  have HZ0 : Hid (CB ((w.alloc (.cells (keyC n a) 29)).alloc (.cells #[.string ⟨#[]⟩, .int .i64 0] 36)) (w.heap.size + 1) 36 #[.string ⟨#[]⟩, .int .i64 0]) := Lib.hid (by
    have := CB.new (w.alloc (.cells (keyC n a) 29)) 36 #[.string ⟨#[]⟩, .int .i64 0]
    rw [show (w.alloc (.cells (keyC n a) 29)).heap.size = w.heap.size + 1 by simp] at this
    exact this)
  have HI := Lib.hid (hI.below HB0.out)
  have HIW := Lib.hid hI
  have C2 := Lib.hid (fun ww h => mpl_any A l cap n ww h)
  clear hI
  cases hp : MM.pl l n with
  | none =>
    obtain ⟨e1, e2⟩ := @fa_none l n a hp
    rw [e1, e2]
    rw [hp] at C2
    have ex : plN none l.length = (l.length : Int) := rfl
    rw [ex] at C2
    clear hp ex e1 e2
    go_enter Try.func12, Try.ntmps12
    go_wp2_with fail
    refine (C2.out _ HI.out).mono ?_
    rintro e w2 ⟨rfl, b2⟩
    have HB2 := Lib.hid (HB0.out.trans (b2.mono HB0.out.size))
    have HZ2 := Lib.hid (HZ0.out.below b2 HZ0.out.lt)
    have hlt : w.heap.size + 1 < w2.heap.size := HZ2.out.lt
    have f0 := HZ2.out.frozen 0; have f1 := HZ2.out.frozen 1
    have c0 := HZ2.out.cell 0; have c1 := HZ2.out.cell 1
    simp at c0 c1
    clear b2
    go_wp2_with fail
    (try simp only [Exit.inBlock, Exit.then])
    refine bodyPost_ret (results_acc (a := ⟨MM.nil, 0⟩) rfl _ _ _ rfl HZ2.out.put2) rfl ⟨rfl, ?_⟩
    exact ((HB2.out.setCell (p := ⟨w.heap.size + 1, 0, none⟩) (show w.heap.size ≤ w.heap.size + 1 by omega) _).setCell (p := ⟨w.heap.size + 1, 1, none⟩) (show w.heap.size ≤ w.heap.size + 1 by omega) _)
  | some i =>
    obtain ⟨hi, -⟩ := MM.pl_some hp
    have ef : foundM l n = MM.mAt l i := by unfold foundM; rw [hp]
    rw [ef]
    rw [hp] at C2
    have ex : plN (some i) l.length = (i : Int) := rfl
    rw [ex] at C2
    clear hp ef ex
    obtain ⟨b, off, A', cap', m, rfl, hb, HV, q1, q2, q3, q4, d0, d1, d2⟩ := HIW.out.get hi
    rw [HV.out]
    have HQ := Lib.hid q3
    have C3 := Lib.hid (fun ww h => apl_any A' m.accs cap' a ww h)
    have hcase : ((MM.pa m.accs a) = none ∧ (MM.pa m.accs a).isSome = false ∧ foundA m.accs a = ⟨MM.nil, 0⟩) ∨ ∃ j, (MM.pa m.accs a) = some j ∧ (MM.pa m.accs a).isSome = true ∧ j < m.accs.length ∧ foundA m.accs a = aAt m.accs j := by
      cases e : MM.pa m.accs a with
      | none => exact .inl ⟨rfl, rfl, fa_no (by rw [e]; rfl)⟩
      | some j => exact .inr ⟨j, rfl, rfl, (MM.pa_some e).1, fa_yes e⟩
    clear q1 q2 q3 q4 HV
    rcases hcase with ⟨e0, e1, e2⟩ | ⟨j, e0, e1, hj, e2⟩
    · rw [e1, e2]
      rw [e0] at C3
      have ex : plN none m.accs.length = (m.accs.length : Int) := rfl
      rw [ex, show (none : Option Nat).isSome = false from rfl] at C3
      clear e0 e1 e2 ex
      go_enter Try.func12, Try.ntmps12
      go_wp2_with fail
      refine (C2.out _ HI.out).mono ?_
      rintro e w2 ⟨rfl, b2⟩
      have HB2 := Lib.hid (HB0.out.trans (b2.mono HB0.out.size))
      have HZ2 := Lib.hid (HZ0.out.below b2 HZ0.out.lt)
      have HG2 := Lib.hid (HG0.out.below b2 HG0.out.lt)
      have hlt : w.heap.size + 1 < w2.heap.size := HZ2.out.lt
      have g1 : w2.cell? ⟨w.heap.size, 1, none⟩ = some (.string a) := HG2.out.cell 1
      have hb2 : b < w2.heap.size := by omega
      replace d2 := (HB2.out.cell (p := ⟨b, off + i * 3 + 2, none⟩) hb).trans d2
      have HQ2 := Lib.hid (HQ.out.below HB2.out)
      have HB9 : Hid (Below w.heap.size w w2) := HB2
      clear b2 d0 d1 HB0 HG0 HZ0 HI HIW C2 HG2
      go_wp2_with fail
      go_region_with (go_at_call 33; refine (C3.out _ (HQ2.out.below (Below.refl _ _).drew)).mono ?_; rintro e w3 ⟨rfl, b3⟩)
      all_goals (
        have b3' : Below w2.heap.size w2 w3 := (Below.refl _ _).drew.trans b3
        have HB3 : Hid (Below w.heap.size w w3) := Lib.hid (HB2.out.trans (b3'.mono HB2.out.size))
        have HZ3 := Lib.hid (HZ2.out.below b3' HZ2.out.lt)
        have f0 := HZ3.out.frozen 0; have f1 := HZ3.out.frozen 1
        have c0 := HZ3.out.cell 0; have c1 := HZ3.out.cell 1
        simp at c0 c1
        have hlt3 : w.heap.size + 1 < w3.heap.size := HZ3.out.lt
        clear b3 b3' d2 g1
        go_wp2_with fail
        (try simp only [Exit.inBlock, Exit.then])
        refine bodyPost_ret (results_acc (a := ⟨MM.nil, 0⟩) rfl _ _ _ rfl HZ3.out.put2) rfl ⟨rfl, ?_⟩
        exact ((HB3.out.setCell (p := ⟨w.heap.size + 1, 0, none⟩) (show w.heap.size ≤ w.heap.size + 1 by omega) _).setCell (p := ⟨w.heap.size + 1, 1, none⟩) (show w.heap.size ≤ w.heap.size + 1 by omega) _))
    · rw [e1, e2]
      rw [e0] at C3
      have ex : plN (some j) m.accs.length = (j : Int) := rfl
      rw [ex, show (some j : Option Nat).isSome = true from rfl] at C3
      obtain ⟨ba, offa, c, eA, hba, HVa, qa, da0, da1⟩ := accs_get HQ.out hj
      have hA2 : A' = some ⟨ba, offa, none⟩ := eA
      subst hA2
      rw [HVa.out]
      clear e0 e1 e2 ex eA qa HVa
      go_enter Try.func12, Try.ntmps12
      go_wp2_with fail
      refine (C2.out _ HI.out).mono ?_
      rintro e w2 ⟨rfl, b2⟩
      have HB2 := Lib.hid (HB0.out.trans (b2.mono HB0.out.size))
      have HZ2 := Lib.hid (HZ0.out.below b2 HZ0.out.lt)
      have HG2 := Lib.hid (HG0.out.below b2 HG0.out.lt)
      have hlt : w.heap.size + 1 < w2.heap.size := HZ2.out.lt
      have g1 : w2.cell? ⟨w.heap.size, 1, none⟩ = some (.string a) := HG2.out.cell 1
      have hb2 : b < w2.heap.size := by omega
      replace d2 := (HB2.out.cell (p := ⟨b, off + i * 3 + 2, none⟩) hb).trans d2
      have HQ2 := Lib.hid (HQ.out.below HB2.out)
      have HB9 : Hid (Below w.heap.size w w2) := HB2
      clear b2 d0 d1 HB0 HG0 HZ0 HI HIW C2 HG2
      go_wp2_with fail
      go_region_with (go_at_call 33; refine (C3.out _ (HQ2.out.below (Below.refl _ _).drew)).mono ?_; rintro e w3 ⟨rfl, b3⟩)
      all_goals (
        have b3' : Below w2.heap.size w2 w3 := (Below.refl _ _).drew.trans b3
        have HB3 : Hid (Below w.heap.size w w3) := Lib.hid (HB2.out.trans (b3'.mono HB2.out.size))
        have HZ3 := Lib.hid (HZ2.out.below b3' HZ2.out.lt)
        have f0 := HZ3.out.frozen 0; have f1 := HZ3.out.frozen 1
        have c0 := HZ3.out.cell 0; have c1 := HZ3.out.cell 1
        simp at c0 c1
        have hlt3 : w.heap.size + 1 < w3.heap.size := HZ3.out.lt
        have d2' : w3.cell? ⟨b, off + i * 3 + 2, none⟩ = some (.slice (some ⟨ba, offa, none⟩) m.accs.length cap') := (b3'.cell (p := ⟨b, off + i * 3 + 2, none⟩) hb2).trans d2
        have hb3 : b < w3.heap.size := Nat.lt_of_lt_of_le hb2 b3'.size
        have ha3 : ba < w3.heap.size := by have := HB3.out.size; omega
        have da0' := (HB3.out.cell (p := ⟨ba, offa + j * 2, none⟩) hba).trans da0
        have da1' := (HB3.out.cell (p := ⟨ba, offa + j * 2 + 1, none⟩) hba).trans da1
        clear b3 b3' d2 g1 HQ2 da0 da1
        go_wp2_with fail
        (try simp only [Exit.inBlock, Exit.then])
        refine bodyPost_ret (results_acc (a := c) rfl _ _ _ rfl HZ3.out.put2) rfl ⟨rfl, ?_⟩
        exact ((HB3.out.setCell (p := ⟨w.heap.size + 1, 0, none⟩) (show w.heap.size ≤ w.heap.size + 1 by omega) _).setCell (p := ⟨w.heap.size + 1, 1, none⟩) (show w.heap.size ≤ w.heap.size + 1 by omega) _))
end Go.Proofs.Ytlnllbcpbohahaa

/- Contracts of layer 11: all accounts, the program's and the reference's; are two lists of names the same. -/
namespace Go.Recs
open Go.RowKit
set_option linter.unusedVariables false
def keyV (x : ByteArray × ByteArray) : List Value := [.string x.1, .string x.2]
def keyQ (x : ByteArray × ByteArray) : Prop := x.1.size ≤ maxLen ∧ x.2.size ≤ maxLen
abbrev Keys := TR keyV keyQ 2
def kAt (l : List (ByteArray × ByteArray)) (k : Nat) : ByteArray × ByteArray := l.getD k (MM.nil, MM.nil)
theorem kAt_get {l : List (ByteArray × ByteArray)} {k : Nat} (h : k < l.length) : kAt l k = l[k] := by simp [kAt, List.getD, h]
theorem keys_get {w : World} {A : Option Addr} {l : List (ByteArray × ByteArray)} (h : Keys w A l) {k : Nat} (hk : k < l.length) :
    ∃ b off, ∃ x : ByteArray × ByteArray, A = some ⟨b, off, none⟩ ∧ b < w.heap.size ∧ Hid (kAt l k = x) ∧ w.cell? ⟨b, off + k * 2, none⟩ = some (.string x.1) ∧ w.cell? ⟨b, off + k * 2 + 1, none⟩ = some (.string x.2) := by
  obtain ⟨b, off, rfl, hb, hq, hc⟩ := h.at_ hk
  exact ⟨b, off, l[k], rfl, hb, Lib.hid (kAt_get hk), hc 0 (by omega), hc 1 (by omega)⟩
end Go.Recs
namespace Go.Proofs.Ytlnllbcpbohahaa
open Go.RowKit Go.Recs
set_option linter.unusedVariables false
set_option linter.unusedSimpArgs false
theorem info_key : (Try.prog.info? 29).map (fun i => (i.zero, i.size, i.bytes)) = some (some (.agg #[.string ⟨#[]⟩, .string ⟨#[]⟩]), 2, 32) := by kernel_rfl
theorem key_one (x y : ByteArray) : ∀ u ∈ [Value.string x, .string y], u.oneCell' = true := by
  intro u hu
  simp only [List.mem_cons, List.not_mem_nil, or_false] at hu
  rcases hu with rfl | rfl <;> rfl
/-- the accounts of the first k members, and of member k the first j -/
def upto (l : List MM.Mem) (k j : Nat) : List (ByteArray × ByteArray) := MM.accsL (l.take k) ++ ((MM.mAt l k).accs.take j).map (fun a => ((MM.mAt l k).name, a.name))
theorem upto_zero (l : List MM.Mem) : upto l 0 0 = [] := by simp [upto, MM.accsL]
theorem upto_next {l : List MM.Mem} {k j : Nat} (hj : j < (MM.mAt l k).accs.length) : upto l k (j + 1) = upto l k j ++ [((MM.mAt l k).name, (aAt (MM.mAt l k).accs j).name)] := by
  unfold upto
  rw [aAt_get hj, List.take_add_one, List.getElem?_eq_getElem hj]
  simp only [Option.toList_some, List.map_append, List.map_cons, List.map_nil, List.append_assoc]
theorem upto_row {l : List MM.Mem} {k : Nat} (hk : k < l.length) : upto l k (MM.mAt l k).accs.length = upto l (k + 1) 0 := by
  unfold upto
  rw [MM.mAt_get hk, List.take_length, List.take_add_one, List.getElem?_eq_getElem hk]
  simp only [Option.toList_some, List.take_zero, List.map_nil, List.append_nil]
  unfold MM.accsL
  rw [List.flatMap_append]
  simp only [List.flatMap_cons, List.flatMap_nil, List.append_nil]
theorem upto_all (l : List MM.Mem) : upto l l.length 0 = MM.accsL l := by simp [upto, MM.accsL]
theorem accsL_take (l : List MM.Mem) (k : Nat) : (MM.accsL (l.take k)).length ≤ (MM.accsL l).length := by
  have : MM.accsL l = MM.accsL (l.take k) ++ MM.accsL (l.drop k) := by
    unfold MM.accsL
    rw [← List.flatMap_append, List.take_append_drop]
  rw [this, List.length_append]
  omega
theorem upto_len {l : List MM.Mem} {k j : Nat} (hk : k < l.length) (hj : j ≤ (MM.mAt l k).accs.length) : (upto l k j).length ≤ (MM.accsL l).length := by
  have h1 := accsL_take l (k + 1)
  have h2 := upto_row hk
  have h3 : (upto l (k + 1) 0).length = (MM.accsL (l.take (k + 1))).length := by simp [upto]
  have h4 : (upto l k j).length ≤ (upto l k (MM.mAt l k).accs.length).length := by
    unfold upto
    simp only [List.length_append, List.length_map, List.length_take]
    omega
  rw [h2, h3] at h4
  omega
theorem accsL_mem {l : List MM.Mem} {m : MM.Mem} (h : m ∈ l) : m.accs.length ≤ (MM.accsL l).length := by
  induction l with
  | nil => cases h
  | cons a r ih =>
    have e : (MM.accsL (a :: r)).length = a.accs.length + (MM.accsL r).length := by simp [MM.accsL]
    rw [e]
    rcases List.mem_cons.1 h with rfl | h
    · omega
    · have := ih h; omega
theorem accsL_q {w : World} {A : Option Addr} {l : List MM.Mem} (h : Mems w A l) : ∀ x ∈ MM.accsL l, keyQ x := by
  obtain ⟨rows, rfl, _, hq⟩ := h
  intro x hx
  unfold MM.accsL at hx
  obtain ⟨m, hm, hx⟩ := List.mem_flatMap.1 hx
  obtain ⟨r, hr, rfl⟩ := List.mem_map.1 hm
  obtain ⟨a, ha, rfl⟩ := List.mem_map.1 hx
  obtain ⟨q1, q2, q3, q4⟩ := hq r hr
  exact ⟨q1, (q3.2 a ha).1⟩
def keq (x y : ByteArray × ByteArray) : Bool := (x.1.toList == y.1.toList) && (x.2.toList == y.2.toList)
theorem key_in (x y : ByteArray × ByteArray) (w : World) : (Op.equalIn 10000 29 (keyA x.1 x.2) (keyA y.1 y.2)).run Try.prog w = .ok (keq x y) w := by
  have u9 := Try.underlying9
  have a9 := Try.isAgg9
  have z9 := Try.sizeOf9
  have hS : Try.prog.underlying 29 = some (.struct (Try.prog.fieldsOf 29)) := by kernel_rfl
  have hp : Try.prog.stoodInHeld 29 = false := by kernel_rfl
  rw [show (10000 : Nat) = 9999 + 1 from rfl, run_equalIn_agg w 9999 29 _ _ hS hp]
  simp only [Program.fieldsOf, Try.underlying29]
  unfold keq
  go_simp
  by_cases h1 : x.1.toList = y.1.toList <;> by_cases h2 : x.2.toList = y.2.toList <;> simp [h1, h2]
theorem key_guard : Try.prog.eqGuardType Try.prog.depth 29 = false := by kernel_rfl
/-- a box stays as it is when a row of another element type grows -/
theorem CB.kept_by {w w' : World} {g : Nat} {t t2 : TypeId} {cs : Array Value} {B sz : Nat} {v : Value} {rows : List (List Value)} (h : CB w g t cs) (ho : OwnR w B t2 sz v rows) (hne : t ≠ t2) (hg : w.grownBy w' v.ownBlock) : CB w' g t cs := by
  refine (hg.block g h.lt ?_).trans h
  intro e
  rcases ho.2.2 with ⟨h0, _⟩ | ⟨g', cap', cur, h0, hB, hh, r⟩
  · rw [h0] at e; cases e
  · rw [h0] at e
    injection e with e
    subst e
    unfold CB at h
    rw [h] at hh
    injection hh with hh
    injection hh with _ h2 _
    exact hne h2

set_option maxHeartbeats 4000000 in
theorem rsamea_any (A B : Option Addr) (l : List (ByteArray × ByteArray)) (cap cap2 : Nat) (w : World) (hA : Keys w A l) (hB : Keys w B l) :
    Calls Try.prog 17 #[.slice A l.length cap, .slice B l.length cap2] w fun e w' => e = .returned (.bool true) ∧ Below w.heap.size w w' := by
  have hlen := hA.len
  have HA := Lib.hid hA; have HBB := Lib.hid hB
  have hgd := key_guard
  clear hA hB
  go_enter Try.func17, Try.ntmps17
  go_wp2_with fail
  go_loopw [5] (fun i wr => ∃ k : Nat, k ≤ l.length ∧ i = .int .i64 (k : Int) ∧ Hid (Below w.heap.size w wr)) (fun i _ => l.length - (intOf i).toNat)
  case atStart => exact ⟨0, by omega, rfl, Lib.hid (Below.refl _ _)⟩
  case round =>
    obtain ⟨k, hk, rfl, HW⟩ := hrel
    by_cases hlt : k < l.length
    · obtain ⟨b, off, x, rfl, hb, HV, d0, d1⟩ := keys_get (HA.out.below HW.out) hlt
      obtain ⟨b', off', x', rfl, hb', HV', g0, g1⟩ := keys_get (HBB.out.below HW.out) hlt
      obtain rfl : x = x' := HV.out.symm.trans HV'.out
      obtain ⟨s, t⟩ := x
      dsimp only at d0 d1 g0 g1
      have E1 : ∀ ww, (Op.equalIn 10000 29 (keyA s t) (keyA s t)).run Try.prog ww = .ok true ww := fun ww => by
        have := key_in (s, t) (s, t) ww
        rw [this]; simp [keq]
      clear HV HV'
      go_wp2_with fail
      go_quiet (fail)
      go_wp2_with fail
      go_roundw
      case rel => exact ⟨k + 1, by omega, by go_num, Lib.hid (by first | exact HW.out | exact below_drewN HW.out _)⟩
      case measure => simp [intOf]; omega
    · obtain rfl : k = l.length := by omega
      go_wp2_with fail
      go_ret
      exact ⟨rfl, HW.out⟩
end Go.Proofs.Ytlnllbcpbohahaa

/- Contracts of layer 11: all accounts. -/
namespace Go.Proofs.Ytlnllbcpbohahaa
open Go.RowKit Go.Recs
set_option linter.unusedVariables false
set_option linter.unusedSimpArgs false
theorem lit_key (W : World) (s t : ByteArray) : Recs (W.alloc (.cells #[.string s, .string t] 29)) (some ⟨W.heap.size, 0, none⟩) 2 [keyV (s, t)] := by
  obtain ⟨A', cap, e, hr, _⟩ := OwnR.recs (OwnR.lit W W.heap.size 29 2 [keyV (s, t)] (by simp [keyV]) (Nat.le_refl _) (by simp [maxLen]))
  injection e with e1
  subst e1
  exact hr
set_option maxHeartbeats 8000000 in
theorem raccts_any (A : Option Addr) (l : List MM.Mem) (cap : Nat) (w : World) (hI : Mems w A l) (hb : (MM.accsL l).length ≤ 1048576) :
    Calls Try.prog 19 #[.slice A l.length cap] w fun e w' => ∃ v, e = .returned v ∧ OwnR w' w.heap.size 29 2 v ((MM.accsL l).map keyV) ∧ Below w.heap.size w w' := by
  have hlen := hI.len
  have K0 := Lib.hid (upto_zero l); have K1 := Lib.hid (fun k j => @upto_next l k j); have K2 := Lib.hid (fun k => @upto_row l k); have K3 := Lib.hid (upto_all l)
  have KL : Hid (∀ k j, k < l.length → j ≤ (MM.mAt l k).accs.length → (upto l k j).length ≤ 1048576) := Lib.hid (fun k j h1 h2 => Nat.le_trans (upto_len h1 h2) hb)
  generalize MM.accsL l = al at *
  have HI := Lib.hid hI
  clear hI hb
  go_enter Try.func19, Try.ntmps19
  go_wp2_with fail
  go_loopw [3, 4, 5] (fun v i _ wr => ∃ k : Nat, k ≤ l.length ∧ i = .int .i64 (k : Int) ∧ Hid (OwnR wr w.heap.size 29 2 v ((upto l k 0).map keyV)) ∧ Hid (Below w.heap.size w wr)) (fun _ i _ _ => l.length - (intOf i).toNat)
  case atStart => exact ⟨0, by omega, rfl, Lib.hid (by rw [K0.out]; exact OwnR.nil _ _ _ _), Lib.hid (Below.refl _ _)⟩
  case round =>
    obtain ⟨k, hk, rfl, HO, HB⟩ := hrel
    by_cases hlt : k < l.length
    · obtain ⟨b, off, A', cap', m, rfl, hb, HV, q1, q2, q3, q4, d0, d1, d2⟩ := HI.out.get hlt
      have hml := q3.len
      have HQ := Lib.hid q3
      have K1' := Lib.hid (fun j => K1.out k j); have K2' := Lib.hid (K2.out k hlt); have KL' := Lib.hid (fun j => KL.out k j hlt)
      rw [HV.out] at K1' K2' KL'
      have HD0 := Lib.hid d0; have HD2 := Lib.hid d2
      clear q1 q2 q3 q4 HV d0 d1 d2
      go_wp2_with fail
      go_loopw [3, 5] (fun v i wq => ∃ j : Nat, j ≤ m.accs.length ∧ i = .int .i64 (j : Int) ∧ Hid (OwnR wq w.heap.size 29 2 v ((upto l k j).map keyV)) ∧ Hid (Below w.heap.size w wq)) (fun _ i _ => m.accs.length - (intOf i).toNat)
      case atStart => exact ⟨0, by omega, rfl, HO, HB⟩
      case round =>
        clear HO HB
        obtain ⟨j, hj, rfl, HO, HB⟩ := hrel
        have d0 := (HB.out.cell (p := ⟨b, off + k * 3, none⟩) hb).trans HD0.out
        have d2 := (HB.out.cell (p := ⟨b, off + k * 3 + 2, none⟩) hb).trans HD2.out
        have hbq := Nat.lt_of_lt_of_le hb HB.out.size
        by_cases hlj : j < m.accs.length
        · obtain ⟨ba, offa, c, rfl, hba, HVa, qa, e0, e1⟩ := accs_get (HQ.out.below HB.out) hlj
          have HN := Lib.hid (K1'.out j hlj)
          rw [HVa.out] at HN
          have hll := KL'.out j hj
          clear qa HVa
          have HRK : Hid (∀ W : World, Recs (W.alloc (.cells #[.string m.name, .string c.name] 29)) (some ⟨W.heap.size, 0, none⟩) 2 [keyV (m.name, c.name)]) := Lib.hid (fun W => lit_key W m.name c.name)
          have HON : Hid (∀ r ∈ [keyV (m.name, c.name)], ∀ u ∈ r, u.oneCell' = true) := Lib.hid (fun r hr => by rw [List.mem_singleton.1 hr]; exact key_one _ _)
          have HZ1 : Hid ((((upto l k j).map keyV).length + [keyV (m.name, c.name)].length) * 32 ≤ 140737488355328 ∧ ((upto l k j).map keyV).length + [keyV (m.name, c.name)].length ≤ maxLen) := Lib.hid (by rw [List.length_map]; simp only [maxLen, List.length_singleton]; omega)
          have HSZ := Lib.hid HB.out.size
          go_wp2_with fail
          go_region_law (refine step_catR _ w.heap.size ((upto l k j).map keyV) [keyV (m.name, c.name)] _ _ _ 29 2 32 _ Try.underlying43 info_key rfl (by decide) rfl rfl _ (some ⟨wr.heap.size, 0, none⟩) 1 1 (by simp [Act.eval, Act.put]) (by simp [Act.eval, Act.put]) rfl (OwnR.alloc (w := wr.drew) HO.out _) (HRK.out wr.drew) HON.out HZ1.out.1 HZ1.out.2 (by have := HSZ.out; simp; omega) ?_; intro v2 w2 o2 b2)
          all_goals (
            have HO2 : Hid (OwnR w2 w.heap.size 29 2 v2 ((upto l k (j + 1)).map keyV)) := Lib.hid (by rw [HN.out, List.map_append]; exact o2)
            have HB2 := Lib.hid ((HB.out.drew.alloc (Nat.le_trans HSZ.out (Nat.le_refl _)) _).trans b2)
            clear o2 b2 HB HO d0 d2
            go_wp2_with fail
            go_roundw
            case rel => exact ⟨j + 1, by omega, by go_num, HO2, HB2⟩
            case measure => simp [intOf]; omega)
        · obtain rfl : j = m.accs.length := by omega
          rw [K2'.out] at HO
          go_wp2_with fail
          go_roundw
          case rel => exact ⟨k + 1, by omega, by go_num, HO, HB⟩
          case measure => simp [intOf]; omega
    · obtain rfl : k = l.length := by omega
      rw [K3.out] at HO
      go_wp2_with fail
      go_ret
      exact ⟨_, rfl, HO.out, HB.out⟩

end Go.Proofs.Ytlnllbcpbohahaa

/- Contracts of layer 11: all accounts, the program's. -/
namespace Go.Proofs.Ytlnllbcpbohahaa
open Go.RowKit Go.Recs
set_option linter.unusedVariables false
set_option linter.unusedSimpArgs false

set_option maxHeartbeats 8000000 in
theorem paccs_any (A : Option Addr) (l : List MM.Mem) (cap : Nat) (w : World) (hI : Mems w A l) (hb : (MM.accsL l).length ≤ 1048576) :
    Calls Try.prog 18 #[.slice A l.length cap] w fun e w' => ∃ v, e = .returned v ∧ OwnR w' w.heap.size 29 2 v ((MM.accsL l).map keyV) ∧ Below w.heap.size w w' := by
  have hlen := hI.len
  have K0 := Lib.hid (upto_zero l); have K1 := Lib.hid (fun k j => @upto_next l k j); have K2 := Lib.hid (fun k => @upto_row l k); have K3 := Lib.hid (upto_all l)
  have KL : Hid (∀ k j, k < l.length → j ≤ (MM.mAt l k).accs.length → (upto l k j).length ≤ 1048576) := Lib.hid (fun k j h1 h2 => Nat.le_trans (upto_len h1 h2) hb)
  generalize MM.accsL l = al at *
  have HI := Lib.hid hI
  clear hI hb
  go_enter Try.func18, Try.ntmps18
  go_wp2_with fail
  go_loopw [2, 4, 6, 9] (fun v _ _ i wr => ∃ k : Nat, k ≤ l.length ∧ i = .int .i64 (k : Int) ∧ Hid (OwnR wr w.heap.size 29 2 v ((upto l k 0).map keyV)) ∧ Hid (Below w.heap.size w wr)) (fun _ _ _ i _ => l.length - (intOf i).toNat)
  case atStart => exact ⟨0, by omega, rfl, Lib.hid (by rw [K0.out]; exact OwnR.nil _ _ _ _), Lib.hid (Below.refl _ _)⟩
  case round =>
    obtain ⟨k, hk, rfl, HO, HB⟩ := hrel
    by_cases hlt : k < l.length
    · obtain ⟨b, off, A', cap', m, rfl, hb, HV, q1, q2, q3, q4, d0, d1, d2⟩ := HI.out.get hlt
      have hml := q3.len
      have hbr : b < wr.heap.size := Nat.lt_of_lt_of_le hb HB.out.size
      replace d0 := (HB.out.cell (p := ⟨b, off + k * 3, none⟩) hb).trans d0
      replace d1 := (HB.out.cell (p := ⟨b, off + k * 3 + 1, none⟩) hb).trans d1
      replace d2 := (HB.out.cell (p := ⟨b, off + k * 3 + 2, none⟩) hb).trans d2
      have HBm := Lib.hid (HB.out.alloc HB.out.size (.cells (memC m A' cap') 32))
      have HMm := Lib.hid (CB.new wr 32 (memC m A' cap'))
      have HOm := Lib.hid (HO.out.alloc (.cells (memC m A' cap') 32))
      have HQ := Lib.hid q3
      have K1' := Lib.hid (fun j => K1.out k j); have K2' := Lib.hid (K2.out k hlt); have KL' := Lib.hid (fun j => KL.out k j hlt)
      rw [HV.out] at K1' K2' KL'
      clear q1 q2 q3 q4 HB HO HV hb
      go_wp2_with fail
      generalize wr.alloc (.cells #[.string m.name, .int .i64 m.status, .slice A' m.accs.length cap'] 32) = w1 at *
      generalize wr.heap.size = gm at *
      go_loopw [2, 6, 16] (fun v _ i wq => ∃ j : Nat, j ≤ m.accs.length ∧ i = .int .i64 (j : Int) ∧ Hid (OwnR wq w.heap.size 29 2 v ((upto l k j).map keyV)) ∧ Hid (CB wq gm 32 (memC m A' cap')) ∧ Hid (Below w.heap.size w wq)) (fun _ _ i _ => m.accs.length - (intOf i).toNat)
      case atStart => exact ⟨0, by omega, rfl, HOm, HMm, HBm⟩
      case round =>
        obtain ⟨j, hj, rfl, HO, HM, HB⟩ := hrel
        by_cases hlj : j < m.accs.length
        · obtain ⟨ba, offa, c, rfl, hba, HVa, qa, e0, e1⟩ := accs_get (HQ.out.below HB.out) hlj
          have HOa := Lib.hid (HO.out.alloc (.cells (accC c) 36))
          have HMa := Lib.hid (HM.out.alloc (.cells (accC c) 36))
          have HBa := Lib.hid (HB.out.alloc HB.out.size (.cells (accC c) 36))
          have cm0 : (wr.alloc (.cells (accC c) 36)).cell? ⟨gm, 0, none⟩ = some (.string m.name) := HMa.out.cell 0
          have cm1 : wr.cell? ⟨gm, 0, none⟩ = some (.string m.name) := HM.out.cell 0
          have hgm : gm < wr.heap.size := HM.out.lt
          have HN := Lib.hid (K1'.out j hlj)
          rw [HVa.out] at HN
          have hll := KL'.out j hj
          clear qa HVa
          go_wp2_with (at_builtin; refine wpList_pushR _ [.string m.name, .string c.name] (key_one _ _) w.heap.size ((upto l k j).map keyV) _ _ 43 29 2 32 _ Try.underlying43 info_key rfl (by decide) rfl rfl rfl _ rfl (by first | rfl | simp [Act.eval, Act.put]) HOa.out ?c1 ?c2 ?c3 ?_)
          case c1 => rw [List.length_map]; omega
          case c2 => rw [List.length_map]; simp only [maxLen]; omega
          case c3 => exact HBa.out.size
          intro v2 w2 o2 b2 hs2 hg2
          have HO2 : Hid (OwnR w2 w.heap.size 29 2 v2 ((upto l k (j + 1)).map keyV)) := Lib.hid (by rw [HN.out, List.map_append]; exact o2)
          have HM2 := Lib.hid (HMa.out.kept_by HOa.out (by decide) hg2)
          have HB2 := Lib.hid (HBa.out.trans b2)
          clear o2 b2 hs2 hg2 HB HO HM HOa HMa HBa cm0 cm1
          go_wp2_with fail
          go_roundw
          case rel => exact ⟨j + 1, by omega, by go_num, HO2, HM2, HB2⟩
          case measure => simp [intOf]; omega
        · obtain rfl : j = m.accs.length := by omega
          go_wp2_with fail
          go_roundw
          case rel => exact ⟨k + 1, by omega, by go_num, by rw [← K2'.out]; exact HO, HB⟩
          case measure => simp [intOf]; omega
    · obtain rfl : k = l.length := by omega
      rw [K3.out] at HO
      go_wp2_with fail
      go_ret
      exact ⟨_, rfl, HO.out, HB.out⟩

end Go.Proofs.Ytlnllbcpbohahaa

namespace Go.Proofs.Ytlnllbcpbohahaa.memberFinds
open Go.RowKit Go.Recs
set_option linter.unusedVariables false
theorem own_keys {w : World} {B : Nat} {v : Value} {l : List (ByteArray × ByteArray)} (h : OwnR w B 29 2 v (l.map keyV)) (hq : ∀ x ∈ l, keyQ x) : ∃ A cap, v = .slice A l.length cap ∧ Keys w A l := by
  obtain ⟨A, cap, rfl, hr, hc⟩ := OwnR.recs h
  exact ⟨A, cap, by simp, ⟨hr, hq⟩⟩
set_option maxHeartbeats 16000000 in
set_option maxRecDepth 100000 in
theorem walk (A : Option Addr) (cap : Nat) (l : List MM.Mem) (x : ByteArray × ByteArray) (n : Int) (w : World) (hI : Mems w A l ∧ l.length ≤ cap) (hx : x.1.size ≤ maxLen ∧ x.2.size ≤ maxLen) (hn : -9223372036854775808 ≤ n ∧ n ≤ 9223372036854775807) (hb : (MM.accsL l).length ≤ 1048576) :
    Calls Try.prog 4 #[.slice A l.length cap, .agg #[.string x.1, .string x.2], .int .i64 n] w fun e w' => e = .returned (.bool true) ∧ Below w.heap.size w w' := by
  obtain ⟨s, t⟩ := x
  dsimp only at *
  have HB0 := Lib.hid ((Below.refl w.heap.size w).alloc (Nat.le_refl _) (.cells (keyC s t) 29))
  have HG0 := Lib.hid (CB.new w 29 (keyC s t))
  have HI := Lib.hid (hI.1.below HB0.out)
  have HKQ := Lib.hid (accsL_q hI.1)
  have C1 := Lib.hid (fun ww h => pfindm_any A l cap s ww h (fun m hm => by have := accsL_mem hm; omega))
  have C2 := Lib.hid (fun ww h => rfindm_any A l cap s ww h)
  have C3 := Lib.hid (fun ww h => pacc_any A l cap s t ww h)
  have C4 := Lib.hid (fun ww h => racc_any A l cap s t ww h)
  have C5 := Lib.hid (fun A1 A2 p1 p2 ww h1 h2 => rone_same (foundM l s) A1 A2 p1 p2 ww h1 h2)
  have C6 := Lib.hid (fun ww h => mmay_any A l cap s t n ww h)
  have C7 := Lib.hid (fun ww h => rmay_any A l cap s t n ww h)
  have C8 := Lib.hid (fun ww h => paccs_any A l cap ww h hb)
  have C9 := Lib.hid (fun ww h => raccts_any A l cap ww h hb)
  have CS := Lib.hid (fun A1 A2 p1 p2 ww h1 h2 => rsamea_any A1 A2 (MM.accsL l) p1 p2 ww h1 h2)
  have CG := Lib.hid (fun ww => goes11_any ww)
  generalize MM.accsL l = al at *
  generalize foundM l s = fm at *
  generalize foundA fm.accs t = fa at *
  generalize (MM.pa fm.accs t).isSome = y1 at *
  generalize (MM.pl l s).isSome = y2 at *
  generalize MM.mayE l s t n = me at *
  have E1 : ∀ ww, (Op.equalIn 10000 36 (accA fa) (accA fa)).run Try.prog ww = .ok true ww := fun ww => by rw [acc_in]; simp [aeq]
  have hgd := acc_guard
  clear hI hx hn hb
  go_enter Try.func4, Try.ntmps4
  go_wp2_with fail
  generalize w.alloc (.cells #[.string s, .string t] 29) = w0 at *
  have HWB : Hid (Below w0.heap.size w0 w0) := Lib.hid (Below.refl _ _)
  refine (C1.out _ HI.out).mono ?_
  rintro e w1 ⟨⟨P1, p1, rfl, hA1, hc1⟩, b1⟩
  have bm1 : Below w1.heap.size w1 (w1.alloc (.cells (memC fm P1 p1) 32)) := (Below.refl _ _).alloc (Nat.le_refl _) _
  have HW1 := Lib.hid (b1.trans (bm1.mono b1.size))
  have HM1 := Lib.hid (CB.new w1 32 (memC fm P1 p1))
  have HA1 := Lib.hid (hA1.below bm1)
  have g0 : (w1.alloc (.cells (memC fm P1 p1) 32)).cell? ⟨w.heap.size, 0, none⟩ = some (.string s) := (HG0.out.below HW1.out HG0.out.lt).cell 0
  clear b1 bm1 hA1 hc1 C1
  go_wp2_with fail
  generalize w1.alloc (.cells #[.string fm.name, .int .i64 fm.status, .slice P1 fm.accs.length p1] 32) = u1 at *
  refine (C2.out _ (HI.out.below HW1.out)).mono ?_
  rintro e w2 ⟨⟨P2, p2, rfl, hA2, hc2⟩, b2⟩
  have bm2 : Below w2.heap.size w2 (w2.alloc (.cells (memC fm P2 p2) 32)) := (Below.refl _ _).alloc (Nat.le_refl _) _
  have b2' := b2.trans (bm2.mono b2.size)
  have HW2 := Lib.hid (HW1.out.trans (b2'.mono HW1.out.size))
  have HM2 := Lib.hid (CB.new w2 32 (memC fm P2 p2))
  have HA2 := Lib.hid (hA2.below bm2)
  have HN1 := Lib.hid (HM1.out.below b2' HM1.out.lt)
  have HE1 := Lib.hid (HA1.out.below b2')
  have HG2 := Lib.hid (HG0.out.below HW2.out HG0.out.lt)
  have h0 : (w2.alloc (.cells (memC fm P2 p2) 32)).cell? ⟨w.heap.size, 0, none⟩ = some (.string s) := HG2.out.cell 0
  have h1 : (w2.alloc (.cells (memC fm P2 p2) 32)).cell? ⟨w.heap.size, 1, none⟩ = some (.string t) := HG2.out.cell 1
  have hgl : w.heap.size < (w2.alloc (.cells (memC fm P2 p2) 32)).heap.size := HG2.out.lt
  clear b2 bm2 b2' hA2 hc2 C2 g0 HM1 HA1 HW1 HG2
  go_wp2_with fail
  generalize w2.alloc (.cells #[.string fm.name, .int .i64 fm.status, .slice P2 fm.accs.length p2] 32) = u2 at *
  refine (C3.out _ (HI.out.below HW2.out)).mono ?_
  rintro e w3 ⟨rfl, b3⟩
  have bm3 : Below w3.heap.size w3 (w3.alloc (.cells (accC fa) 36)) := (Below.refl _ _).alloc (Nat.le_refl _) _
  have b3' := b3.trans (bm3.mono b3.size)
  have HW3 := Lib.hid (HW2.out.trans (b3'.mono HW2.out.size))
  have HF3 := Lib.hid (CB.new w3 36 (accC fa))
  have HN2 := Lib.hid (HN1.out.below b3' HN1.out.lt); have HM3 := Lib.hid (HM2.out.below b3' HM2.out.lt)
  have HE2 := Lib.hid (HE1.out.below b3'); have HA3 := Lib.hid (HA2.out.below b3')
  have HG3 := Lib.hid (HG0.out.below HW3.out HG0.out.lt)
  have h0' : (w3.alloc (.cells (accC fa) 36)).cell? ⟨w.heap.size, 0, none⟩ = some (.string s) := HG3.out.cell 0
  have h1' : (w3.alloc (.cells (accC fa) 36)).cell? ⟨w.heap.size, 1, none⟩ = some (.string t) := HG3.out.cell 1
  clear b3 bm3 b3' C3 h0 h1 hgl HW2 HN1 HM2 HE1 HA2 HG3
  go_wp2_with fail
  generalize w3.alloc (.cells #[.string fa.name, .int .i64 fa.kind] 36) = u3 at *
  refine (C4.out _ (HI.out.below HW3.out)).mono ?_
  rintro e w4 ⟨rfl, b4⟩
  have bm4 : Below w4.heap.size w4 (w4.alloc (.cells (accC fa) 36)) := (Below.refl _ _).alloc (Nat.le_refl _) _
  have b4' := b4.trans (bm4.mono b4.size)
  have HW4 := Lib.hid (HW3.out.trans (b4'.mono HW3.out.size))
  have HF4 := Lib.hid (CB.new w4 36 (accC fa))
  have HF3' := Lib.hid (HF3.out.below b4' HF3.out.lt)
  have HN3 := Lib.hid (HN2.out.below b4' HN2.out.lt); have HM4 := Lib.hid (HM3.out.below b4' HM3.out.lt)
  have HE3 := Lib.hid (HE2.out.below b4'); have HA4 := Lib.hid (HA3.out.below b4')
  clear b4 bm4 b4' C4 h0' h1' HW3 HN2 HM3 HE2 HA3 HF3
  have n0 : (w4.alloc (.cells (accC fa) 36)).cell? ⟨w1.heap.size, 0, none⟩ = some (.string fm.name) := HN3.out.cell 0
  have n1 : (w4.alloc (.cells (accC fa) 36)).cell? ⟨w1.heap.size, 1, none⟩ = some (.int .i64 fm.status) := HN3.out.cell 1
  have n2 : (w4.alloc (.cells (accC fa) 36)).cell? ⟨w1.heap.size, 2, none⟩ = some (.slice P1 fm.accs.length p1) := HN3.out.cell 2
  have m0 : (w4.alloc (.cells (accC fa) 36)).cell? ⟨w2.heap.size, 0, none⟩ = some (.string fm.name) := HM4.out.cell 0
  have m1 : (w4.alloc (.cells (accC fa) 36)).cell? ⟨w2.heap.size, 1, none⟩ = some (.int .i64 fm.status) := HM4.out.cell 1
  have m2 : (w4.alloc (.cells (accC fa) 36)).cell? ⟨w2.heap.size, 2, none⟩ = some (.slice P2 fm.accs.length p2) := HM4.out.cell 2
  go_wp2_with fail
  generalize w4.alloc (.cells #[.string fa.name, .int .i64 fa.kind] 36) = u4 at *
  refine (C5.out _ _ _ _ _ HE3.out HA4.out).mono ?_
  rintro e w5 ⟨rfl, b5⟩
  have HW5 := Lib.hid (HW4.out.trans (b5.mono HW4.out.size))
  have HF5 := Lib.hid (HF4.out.below b5 HF4.out.lt); have HF6 := Lib.hid (HF3'.out.below b5 HF3'.out.lt)
  have a0 : w5.cell? ⟨w3.heap.size, 0, none⟩ = some (.string fa.name) := HF6.out.cell 0
  have a1 : w5.cell? ⟨w3.heap.size, 1, none⟩ = some (.int .i64 fa.kind) := HF6.out.cell 1
  have c0 : w5.cell? ⟨w4.heap.size, 0, none⟩ = some (.string fa.name) := HF5.out.cell 0
  have c1 : w5.cell? ⟨w4.heap.size, 1, none⟩ = some (.int .i64 fa.kind) := HF5.out.cell 1
  clear b5 C5 n0 n1 n2 m0 m1 m2 HN3 HM4 HE3 HA4 HF4 HF3' HW4
  go_wp2_with fail
  have HG5 := Lib.hid (HG0.out.below HW5.out HG0.out.lt)
  have HI5 := Lib.hid (HI.out.below HW5.out)
  have HB5 := Lib.hid (HB0.out.trans (HW5.out.mono HB0.out.size))
  have HSF : Hid (∀ ww, Below w5.heap.size w5 ww → (ww.cell? ⟨w.heap.size, 0, none⟩ = some (.string s) ∧ ww.cell? ⟨w.heap.size, 1, none⟩ = some (.string t))) := Lib.hid (fun ww h => ⟨(HG5.out.below h HG5.out.lt).cell 0, (HG5.out.below h HG5.out.lt).cell 1⟩)
  have HBw : Hid (Below w5.heap.size w5 w5.drew) := Lib.hid (Below.refl _ _).drew
  clear a0 a1 c0 c1 HF5 HF6 HG0 HG5 HW5 HI HB0
  go_region_held3 (fun ww => ww.cell? ⟨w.heap.size, 0, none⟩ = some (.string s) ∧ ww.cell? ⟨w.heap.size, 1, none⟩ = some (.string t))
    (exact HSF.out _ HBw.out)
    (first
      | (go_at_call 15; refine (C6.out _ (HI5.out.below HBw.out)).mono ?_; rintro e w6 ⟨rfl, b6⟩; replace HBw := Lib.hid (HBw.out.trans (b6.mono HBw.out.size)); clear b6)
      | (go_at_call 16; refine (C7.out _ (HI5.out.below HBw.out)).mono ?_; rintro e w6 ⟨rfl, b6⟩; replace HBw := Lib.hid (HBw.out.trans (b6.mono HBw.out.size)); clear b6)
      | (go_at_call 18; refine (C8.out _ (HI5.out.below HBw.out)).mono ?_; rintro e w6 ⟨v6, rfl, o6, b6⟩; (try replace HK2 := Lib.hid (HK2.out.below b6)); obtain ⟨K1, k1, rfl, hk1⟩ := own_keys o6 HKQ.out; have HK1 := Lib.hid hk1; replace HBw := Lib.hid (HBw.out.trans (b6.mono HBw.out.size)); clear b6 o6 hk1)
      | (go_at_call 19; refine (C9.out _ (HI5.out.below HBw.out)).mono ?_; rintro e w6 ⟨v6, rfl, o6, b6⟩; (try replace HK1 := Lib.hid (HK1.out.below b6)); obtain ⟨K2, k2, rfl, hk2⟩ := own_keys o6 HKQ.out; have HK2 := Lib.hid hk2; replace HBw := Lib.hid (HBw.out.trans (b6.mono HBw.out.size)); clear b6 o6 hk2)
      | (go_at_call 17; refine (CS.out _ _ _ _ _ HK1.out HK2.out).mono ?_; rintro e w6 ⟨rfl, b6⟩; replace HBw := Lib.hid (HBw.out.trans (b6.mono HBw.out.size)); clear b6)
      | (go_at_call 9; refine (CG.out _).mono ?_; rintro e w6 ⟨rfl, b6⟩; replace HBw := Lib.hid (HBw.out.trans (b6.mono HBw.out.size)); clear b6))
  all_goals (
    clear HSF
    have HBF := Lib.hid (HB5.out.trans (HBw.out.mono HB5.out.size))
    go_wp2_with fail
    go_ret
    exact ⟨rfl, HBF.out⟩)
end Go.Proofs.Ytlnllbcpbohahaa.memberFinds

/- A law's arguments: members in slices, a name of an account by value, turns. -/
namespace Go.Proofs.Ytlnllbcpbohahaa
open Go.ChangeShapes Go.WideShapes Go.ChangeAt Go.RowKit Go.Recs
set_option linter.unusedVariables false
set_option maxRecDepth 100000

theorem acc_leafs : leafs Try.prog 2 36 = some accL := by kernel_rfl
theorem accs_cells {H : Type} {enc : TypeId × Value → H} {W : World} {base : Nat} {spare : Nat → Bool} {held : Bool} {k : Nat} {cs : List Value} {y : DataW H × List MemPlace}
    (h : DataW.trod enc Try.prog W base spare held k 30 cs = some y) : ∃ A cap, ∃ l : List MM.Ac, cs = [.slice A l.length cap] ∧ Accs W A l ∧ l.length ≤ cap ∧ ∃ ds sp, (y.1 = .nil ∧ l = [] ∨ y.1 = .slice ds sp) ∧ ds.length = l.length := by
  obtain ⟨A, cap, rows, rfl, hR, hc, ds, sp, h1, h2, h3⟩ := open_rows (sz := 2) (R := fun r _ => okAll accL r) Try.underlying30 (by kernel_rfl) (by omega) (fun k cs y hl hy => leafs_ok 2 _ accL acc_leafs k cs y hl hy) h
  have hall : ∀ r ∈ rows, okAll accL r := by
    intro r hr
    obtain ⟨i, hi, rfl⟩ := List.mem_iff_getElem.1 hr
    have := h3 i hi
    simpa [List.getD, hi] using this
  obtain ⟨l, rfl, hq⟩ := typed (ls := accL) accV _ acc_row rows hall
  rw [List.length_map] at hc h2 ⊢
  refine ⟨A, cap, l, rfl, ⟨hR, hq⟩, hc, ds, sp, ?_, h2⟩
  rcases h1 with ⟨a, b⟩ | a
  · exact .inl ⟨a, by simpa using b⟩
  · exact .inr a
theorem mem_cells {H : Type} {enc : TypeId × Value → H} {W : World} {base : Nat} {spare : Nat → Bool} {held : Bool} (k : Nat) (cs : List Value) (y : DataW H × List MemPlace) (hl : cs.length = 3)
    (h : DataW.trod enc Try.prog W base spare held k 32 cs = some y) : ∃ r : MRow, cs = mrowV r ∧ mrowQ W r ∧ ∃ d0 d1 d2 ds sp, y.1 = .agg [d0, d1, d2] ∧ (d2 = .nil ∧ r.m.accs = [] ∨ d2 = .slice ds sp) ∧ ds.length = r.m.accs.length := by
  obtain ⟨xs, n, _, hxd, _, hxl, hf⟩ := DataW.trod_struct Try.underlying32 h
  have h0 := hf 0 _ rfl
  have h1 := hf 1 _ rfl
  have h2 := hf 2 _ rfl
  match xs, hxl with
  | [x0, x1, x2], _ =>
  match cs, hl with
  | [c0, c1, c2], _ =>
    have z9 : Try.prog.cellsOf 9 = 1 := by kernel_rfl
    have z3 : Try.prog.cellsOf 3 = 1 := by kernel_rfl
    have zs : Try.prog.cellsOf 30 = 1 := by kernel_rfl
    have h0' : DataW.trod enc Try.prog W base spare held n 9 ([c0, c1, c2].take (Try.prog.cellsOf 9)) = some x0 := h0
    have h1' : DataW.trod enc Try.prog W base spare held n 3 ([c1, c2].take (Try.prog.cellsOf 3)) = some x1 := h1
    have h2' : DataW.trod enc Try.prog W base spare held n 30 ([c2].take (Try.prog.cellsOf 30)) = some x2 := h2
    rw [z9] at h0'; rw [z3] at h1'; rw [zs] at h2'
    obtain ⟨s, hs, _, hs2⟩ := DataW.trod_string Try.underlying9 h0'
    obtain ⟨m, hm, _, hm2⟩ := DataW.trod_int Try.underlying3 h1'
    obtain ⟨A, cap, l, hc2, hA, hlc, ds, sp, hd, hdl⟩ := accs_cells h2'
    have e0 : c0 = .string s := by simpa using hs
    have e1 : c1 = .int .i64 m := by simpa using hm
    have e2 : c2 = .slice A l.length cap := by simpa using hc2
    subst e0 e1 e2
    refine ⟨⟨⟨s, m, l⟩, A, cap⟩, rfl, ⟨hs2, bounds_i64 hm2, hA, hlc⟩, x0.1, x1.1, x2.1, ds, sp, ?_, hd, hdl⟩
    rw [hxd]; rfl
theorem open_memT {H : Type} {enc : TypeId × Value → H} {W : World} {base b0 : Nat} {spare : Nat → Bool} {held : Bool} {r : Reach} {v : Value} {d : DataW H} {p : List MemPlace}
    (hv : Value.okWide Try.prog W r b0 22 v) (h : DataW.Trod enc Try.prog W base spare held 22 v d p) :
    ∃ A cap, ∃ l : List MM.Mem, v = .slice A l.length cap ∧ (Mems W A l ∧ l.length ≤ cap) ∧ True := by
  obtain ⟨a, len, cap0, rfl⟩ := okWide_slice Try.underlying22 hv
  obtain ⟨fuel, hf⟩ := h
  obtain ⟨A, cap, rows, e, hR, hc, ds, sp, h1, h2, h3⟩ := open_rows (sz := 3) (R := fun cs _ => ∃ r : MRow, cs = mrowV r ∧ mrowQ W r) Try.underlying22 (by kernel_rfl) (by omega) (fun k cs y hl hy => by
    obtain ⟨r, hr, hq, _⟩ := mem_cells k cs y hl hy
    exact ⟨r, hr, hq⟩) hf
  have hall : ∀ r ∈ rows, ∃ m : MRow, r = mrowV m ∧ mrowQ W m := by
    intro r hr
    obtain ⟨i, hi, rfl⟩ := List.mem_iff_getElem.1 hr
    have := h3 i hi
    simpa [List.getD, hi] using this
  have key : ∀ rs : List (List Value), (∀ r ∈ rs, ∃ m : MRow, r = mrowV m ∧ mrowQ W m) → ∃ ms : List MRow, rs = ms.map mrowV ∧ ∀ m ∈ ms, mrowQ W m := by
    intro rs
    induction rs with
    | nil => intro _; exact ⟨[], rfl, by simp⟩
    | cons r rs ih =>
      intro hh
      obtain ⟨m, e1, q1⟩ := hh r (by simp)
      obtain ⟨ms, e2, q2⟩ := ih (fun r' hr' => hh r' (by simp [hr']))
      refine ⟨m :: ms, by rw [List.map_cons, e1, e2], ?_⟩
      intro b hb
      rcases List.mem_cons.1 hb with rfl | hb
      · exact q1
      · exact q2 b hb
  obtain ⟨ms, rfl, hq⟩ := key rows hall
  simp [Value.cells] at e
  obtain ⟨rfl, rfl, rfl⟩ := e
  exact ⟨a, cap0, ms.map MRow.m, by simp, ⟨⟨ms, rfl, hR, hq⟩, by simpa using hc⟩, trivial⟩
def keyL : List Leaf := [.str, .str]
theorem key_leafs : leafs Try.prog 2 29 = some keyL := by kernel_rfl
theorem key_row (r : List Value) (h : okAll keyL r) : ∃ x : ByteArray × ByteArray, r = [.string x.1, .string x.2] ∧ x.1.size ≤ maxLen ∧ x.2.size ≤ maxLen := by
  obtain ⟨c0, r0, rfl, ⟨s, rfl, hs⟩, g0⟩ := okAll_cons h
  obtain ⟨c1, r1, rfl, ⟨t, rfl, ht⟩, g1⟩ := okAll_cons g0
  rw [okAll_nil g1]
  exact ⟨(s, t), rfl, hs, ht⟩
theorem open_keyV {H : Type} {enc : TypeId × Value → H} {W : World} {base b0 : Nat} {spare : Nat → Bool} {held : Bool} {r : Reach} {v : Value} {d : DataW H} {p : List MemPlace}
    (hv : Value.okWide Try.prog W r b0 29 v) (h : DataW.Trod enc Try.prog W base spare held 29 v d p) :
    ∃ x : ByteArray × ByteArray, v = .agg #[.string x.1, .string x.2] ∧ (x.1.size ≤ maxLen ∧ x.2.size ≤ maxLen) := by
  obtain ⟨cs, rfl, hk⟩ := open_rec (n := 2) Try.underlying29 key_leafs (by kernel_rfl) hv h
  obtain ⟨x, rfl, hq⟩ := key_row cs hk
  exact ⟨x, rfl, hq⟩
end Go.Proofs.Ytlnllbcpbohahaa
