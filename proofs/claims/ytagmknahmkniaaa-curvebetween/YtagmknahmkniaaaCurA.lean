/- Contracts of layer 19: within, isPrice, Check. -/
import Derived.Test.YtagmknahmkniaaaPtBox
namespace Go.Proofs.Ytagmknahmkniaaa
open Go.RowKit Go.Recs
set_option linter.unusedVariables false
set_option linter.unusedSimpArgs false
theorem uwithin_any (n a b : Int) (w : World) :
    Calls Try.prog 27 #[.int .i64 n, .int .i64 a, .int .i64 b] w fun e w' => e = .returned (.bool (QM.within n a b)) ∧ w = w' := by
  by_cases h1 : a ≤ n
  · by_cases h2 : n ≤ b
    · have e : QM.within n a b = true := QM.within_true.2 ⟨h1, h2⟩
      rw [e]; clear e
      go_enter Try.func27, Try.ntmps27
      go_wp2
      go_ret
      exact ⟨rfl, rfl⟩
    · have e : QM.within n a b = false := QM.within_false.2 (.inr (by omega))
      rw [e]; clear e
      go_enter Try.func27, Try.ntmps27
      go_wp2
      go_ret
      exact ⟨rfl, rfl⟩
  · have e : QM.within n a b = false := QM.within_false.2 (.inl (by omega))
    rw [e]; clear e
    go_enter Try.func27, Try.ntmps27
    go_wp2
    go_ret
    exact ⟨rfl, rfl⟩
theorem uisprice_any (n : Int) (w : World) :
    Calls Try.prog 30 #[.int .i64 n] w fun e w' => e = .returned (.bool (UM.isP n)) ∧ w = w' := by
  have C1 := Lib.hid (fun ww => uwithin_any n (-16777216) 16777216 ww)
  have e : UM.isP n = QM.within n (-16777216) 16777216 := rfl
  rw [e]; clear e
  generalize QM.within n (-16777216) 16777216 = b at *
  go_enter Try.func30, Try.ntmps30
  go_wp2_with fail
  refine (C1.out _).mono ?_
  rintro e w1 ⟨rfl, rfl⟩
  go_wp2_with fail
  go_ret
  exact ⟨rfl, rfl⟩
set_option maxRecDepth 100000 in
set_option maxHeartbeats 4000000 in
theorem ucheck_any (A : Option Addr) (l : List UM.Pt) (n cap : Nat) (hn : n = l.length) (w : World) (hI : Pts w A l) :
    Calls Try.prog 12 #[.slice A n cap] w fun e w' => e = .returned (.int .i64 (UM.checkE l)) ∧ Below w.heap.size w w' := by
  subst hn
  have hlen := hI.len
  have C0 := Lib.hid (fun ww => uwithin_any (l.length : Int) 1 128 ww)
  have C1 := Lib.hid (fun n a b ww => uwithin_any n a b ww)
  have C2 := Lib.hid (fun n ww => uisprice_any n ww)
  cases h32 : QM.within l.length 1 128
  · have e : UM.checkE l = 8 := by unfold UM.checkE; rw [if_pos h32]
    rw [h32] at C0
    rw [e]; clear e hI h32 C1 C2
    go_enter Try.func12, Try.ntmps12
    go_wp2_with fail
    refine (C0.out _).mono ?_
    rintro e w1 ⟨rfl, rfl⟩
    go_wp2_with fail
    go_ret
    exact ⟨rfl, Below.refl _ _⟩
  have KA := Lib.hid (fun j (h : j < l.length) e k => UM.rest_at h e k)
  have KE := Lib.hid (fun e k => UM.rest_end l e k)
  have K0 : Hid (UM.checkE l = UM.restE (l.drop 0) 0 false) := Lib.hid (by unfold UM.checkE; rw [if_neg (by simp [h32]), List.drop_zero])
  rw [h32] at C0
  generalize UM.checkE l = x at *
  have HI := Lib.hid hI
  clear hI h32
  go_enter Try.func12, Try.ntmps12
  go_wp2_with fail
  refine (C0.out _).mono ?_
  rintro e w1 ⟨rfl, rfl⟩
  go_wp2_with fail
  go_loopw [3, 4, 6, 13] (fun ev kv _ i wr => ∃ j : Nat, j ≤ l.length ∧ i = .int .i64 (j : Int) ∧ ∃ (ea : Int) (kn : Bool), ev = .int .i64 ea ∧ kv = .bool kn ∧ 0 ≤ ea ∧ ea ≤ 73049 ∧ Hid (x = UM.restE (l.drop j) ea kn) ∧ Hid (Below w.heap.size w wr)) (fun _ _ _ i _ => l.length - (intOf i).toNat)
  case atStart => exact ⟨0, by omega, rfl, 0, false, rfl, rfl, by omega, by omega, K0, Lib.hid (Below.refl _ _)⟩
  case round =>
    obtain ⟨j, hj, rfl, ea, kn, rfl, rfl, he0, he1, HE, HW⟩ := hrel
    by_cases hlt : j < l.length
    · obtain ⟨b, off, t, rfl, hb, HV, ⟨q0, q1⟩, d0, d1, d2⟩ := pts_get (HI.out.below HW.out) hlt
      have HWA := Lib.hid (HW.out.alloc HW.out.size (.cells (ptC t) 44))
      have HC := CB.new wr 44 (ptC t)
      have f0 := HC.cell 0
      have f1 := HC.cell 1
      have f2 := HC.cell 2
      simp only [List.getElem?_toArray, List.getElem?_cons_zero, List.getElem?_cons_succ] at f0 f1 f2
      have HR : Hid (x = if QM.within t.exp ea 73048 = false then 15 else if t.known = true ∧ UM.isP t.price = false then 17 else UM.restE (l.drop (j + 1)) (t.exp + 1) (kn || t.known)) := Lib.hid (by rw [HE.out, KA.out j hlt, HV.out])
      obtain ⟨wa, hwa⟩ : ∃ wa, wr.alloc (.cells #[.int .i64 t.exp, .int .i64 t.price, .bool t.known] 44) = wa := ⟨_, rfl⟩
      rw [hwa] at f0 f1 f2
      have HWA := Lib.hid (hwa ▸ HWA.out : Below w.heap.size w wa)
      clear HC HE q0 q1
      go_wp2_with fail
      refine (C1.out _ _ _ _).mono ?_
      rintro e w2 ⟨rfl, rfl⟩
      cases g1 : QM.within t.exp ea 73048
      · have HX : Hid (x = 15) := Lib.hid (by rw [HR.out, if_pos g1])
        go_wp2_with fail
        go_ret
        exact ⟨by rw [HX.out] <;> rfl, HWA.out⟩
      have hg := QM.within_true.1 g1
      have hw1 : ¬ 73048 < t.exp := by omega
      cases g2 : t.known
      · have HX : Hid (x = UM.restE (l.drop (j + 1)) (t.exp + 1) kn) := Lib.hid (by rw [HR.out, if_neg (by simp [g1]), if_neg (by simp [g2]), g2, Bool.or_false])
        rw [g2] at f2
        have hlo : 0 ≤ t.exp + 1 ∧ t.exp + 1 ≤ 73049 := ⟨by omega, by omega⟩
        clear HR g1 g2
        cases kn
        all_goals (
          go_wp2_with fail
          go_quiet (fail)
          go_wp2_with fail
          go_roundw
          case rel => exact ⟨j + 1, by omega, by go_num, _, _, rfl, rfl, hlo.1, hlo.2, HX, Lib.hid (by first | exact below_drewN HWA.out _ | exact HWA.out)⟩
          case measure => simp [intOf]; omega)
      · rw [g2] at f2
        go_wp2_with fail
        refine (C2.out _ _).mono ?_
        rintro e w2 ⟨rfl, rfl⟩
        cases g3 : UM.isP t.price
        · have HX : Hid (x = 17) := Lib.hid (by rw [HR.out, if_neg (by simp [g1]), if_pos ⟨g2, g3⟩])
          go_wp2_with fail
          go_ret
          exact ⟨by rw [HX.out] <;> rfl, HWA.out⟩
        have HX : Hid (x = UM.restE (l.drop (j + 1)) (t.exp + 1) true) := Lib.hid (by rw [HR.out, if_neg (by simp [g1]), if_neg (by simp [g3]), g2, Bool.or_true])
        have hlo : 0 ≤ t.exp + 1 ∧ t.exp + 1 ≤ 73049 := ⟨by omega, by omega⟩
        clear HR g1 g2 g3
        cases kn
        all_goals (
          go_wp2_with fail
          go_quiet (fail)
          go_wp2_with fail
          go_roundw
          case rel => exact ⟨j + 1, by omega, by go_num, _, _, rfl, rfl, hlo.1, hlo.2, HX, Lib.hid (by first | exact below_drewN HWA.out _ | exact HWA.out)⟩
          case measure => simp [intOf]; omega)
    · obtain rfl : j = l.length := by omega
      cases kn
      · have HX : Hid (x = 11) := Lib.hid (by rw [HE.out, KE.out]; rfl)
        go_wp2_with fail
        go_ret
        exact ⟨by rw [HX.out] <;> rfl, HW.out⟩
      · have HX : Hid (x = 0) := Lib.hid (by rw [HE.out, KE.out]; rfl)
        go_wp2_with fail
        go_ret
        exact ⟨by rw [HX.out] <;> rfl, HW.out⟩
end Go.Proofs.Ytagmknahmkniaaa
