/- Put together: CurH, CurP, CurQ, CurJ, WCurveMoves, SizedRec. -/
import Derived.Test.YtagmknahmkniaaaBun7
import Derived.Test.YtagmknahmkniaaaBun6
import Derived.Test.YtagmknahmkniaaaBun8
import Derived.StillTailTactics
import Derived.Test.YtagmknahmkniaaaBun1
import Derived.SizedLaws
import Derived.ProofKit
/- Contracts of layer 19: Shift. -/
namespace UM
theorem move_e8 {l : List Pt} {b lo hi : Int} (h : checkE l ≠ 0) : moveE l b lo hi = checkE l := by unfold moveE; rw [if_pos h]
theorem move_e17 {l : List Pt} {b lo hi : Int} (h : checkE l = 0) (hb : isP b = false) : moveE l b lo hi = 17 := by unfold moveE; rw [if_neg (by simp [h]), if_pos hb]
theorem move_e2 {l : List Pt} {b lo hi : Int} (h : checkE l = 0) (hb : isP b = true) (h2 : (isP lo && isP hi && decide (lo ≤ hi)) = false) : moveE l b lo hi = 2 := by unfold moveE; rw [if_neg (by simp [h]), if_neg (by simp [hb]), if_pos h2]
theorem move_e0 {l : List Pt} {b lo hi : Int} (h : checkE l = 0) (hb : isP b = true) (h2 : (isP lo && isP hi && decide (lo ≤ hi)) = true) : moveE l b lo hi = 0 := by unfold moveE; rw [if_neg (by simp [h]), if_neg (by simp [hb]), if_neg (by simp [h2])]
end UM
namespace Go.Proofs.Ytagmknahmkniaaa
open Go.RowKit Go.Recs
set_option linter.unusedVariables false
set_option linter.unusedSimpArgs false
set_option maxHeartbeats 4000000 in
set_option maxRecDepth 100000 in
theorem ushift_any (A : Option Addr) (l : List UM.Pt) (n cap : Nat) (hn : n = l.length) (b lo hi : Int) (w : World) (hI : Pts w A l) :
    Calls Try.prog 17 #[.slice A n cap, .int .i64 b, .int .i64 lo, .int .i64 hi] w fun e w' => ∃ v, e = .returned (.tuple #[v, .int .i64 (UM.moveE l b lo hi)]) ∧ OwnR w' w.heap.size 44 3 v ((UM.moveR l b lo hi).map ptV) ∧ Below w.heap.size w w' := by
  subst hn
  have hlen := hI.len
  have C1 := Lib.hid (ucheck_any A l l.length cap rfl w hI)
  have P1 := Lib.hid (fun ww => uisprice_any b ww)
  have P2 := Lib.hid (fun ww => uisprice_any lo ww)
  have P3 := Lib.hid (fun ww => uisprice_any hi ww)
  by_cases h : UM.checkE l = 0
  · rw [h] at C1
    cases hb : UM.isP b
    · rw [UM.move_no (by rw [UM.move_e17 h hb]; decide), UM.move_e17 h hb]
      rw [hb] at P1
      clear h hb hI
      go_enter Try.func17, Try.ntmps17
      go_wp2_with fail
      refine C1.out.mono ?_
      rintro e w1 ⟨rfl, b1⟩
      have HB := Lib.hid b1
      clear b1 C1
      go_wp2_with fail
      refine (P1.out _).mono ?_
      rintro e w2 ⟨rfl, rfl⟩
      go_wp2_with fail
      go_ret2
      exact ⟨_, rfl, OwnR.nil _ _ _ _, HB.out⟩
    cases h2 : (UM.isP lo && UM.isP hi && decide (lo ≤ hi))
    · rw [UM.move_no (by rw [UM.move_e2 h hb h2]; decide), UM.move_e2 h hb h2]
      rw [hb] at P1
      clear h hb hI
      cases g1 : UM.isP lo
      · rw [g1] at P2
        clear h2 g1
        go_enter Try.func17, Try.ntmps17
        go_wp2_with fail
        refine C1.out.mono ?_
        rintro e w1 ⟨rfl, b1⟩
        have HB := Lib.hid b1
        clear b1 C1
        go_wp2_with fail
        refine (P1.out _).mono ?_
        rintro e w2 ⟨rfl, rfl⟩
        go_wp2_with fail
        refine (P2.out _).mono ?_
        rintro e w2 ⟨rfl, rfl⟩
        go_wp2_with fail
        go_ret2
        exact ⟨_, rfl, OwnR.nil _ _ _ _, HB.out⟩
      cases g2 : UM.isP hi
      · rw [g1] at P2
        rw [g2] at P3
        clear h2 g1 g2
        go_enter Try.func17, Try.ntmps17
        go_wp2_with fail
        refine C1.out.mono ?_
        rintro e w1 ⟨rfl, b1⟩
        have HB := Lib.hid b1
        clear b1 C1
        go_wp2_with fail
        refine (P1.out _).mono ?_
        rintro e w2 ⟨rfl, rfl⟩
        go_wp2_with fail
        refine (P2.out _).mono ?_
        rintro e w2 ⟨rfl, rfl⟩
        go_wp2_with fail
        refine (P3.out _).mono ?_
        rintro e w2 ⟨rfl, rfl⟩
        go_wp2_with fail
        go_ret2
        exact ⟨_, rfl, OwnR.nil _ _ _ _, HB.out⟩
      rw [g1, g2] at h2
      have hlt : hi < lo := by
        have : ¬ lo ≤ hi := by simpa using h2
        omega
      rw [g1] at P2
      rw [g2] at P3
      clear h2 g1 g2
      go_enter Try.func17, Try.ntmps17
      go_wp2_with fail
      refine C1.out.mono ?_
      rintro e w1 ⟨rfl, b1⟩
      have HB := Lib.hid b1
      clear b1 C1
      go_wp2_with fail
      refine (P1.out _).mono ?_
      rintro e w2 ⟨rfl, rfl⟩
      go_wp2_with fail
      refine (P2.out _).mono ?_
      rintro e w2 ⟨rfl, rfl⟩
      go_wp2_with fail
      refine (P3.out _).mono ?_
      rintro e w2 ⟨rfl, rfl⟩
      go_wp2_with fail
      go_ret2
      exact ⟨_, rfl, OwnR.nil _ _ _ _, HB.out⟩
    rw [UM.move_yes (UM.move_e0 h hb h2), UM.move_e0 h hb h2]
    have g := UM.check_good.1 h
    simp only [Bool.and_eq_true, decide_eq_true_eq] at h2
    obtain ⟨⟨g1, g2⟩, g3⟩ := h2
    have hbb := UM.isP_true.1 hb
    have hl2 := g.len
    have hng : ¬ hi < lo := by omega
    rw [hb] at P1
    rw [g1] at P2
    rw [g2] at P3
    have C2 := Lib.hid (fun ww h => uclone_any A (l.map ptV) l.length cap ww (by simp) (pts_one l) h (by rw [List.length_map]; omega))
    have HI := Lib.hid hI
    have C3 := Lib.hid (fun p ww => clamp_any p lo hi ww)
    have KB := Lib.hid (fun k (hk : k < l.length) => (g.ord.mem _ (UM.pAt_mem hk)).2.2)
    have KF := Lib.hid (fun p (hp : p.known = false) => (show UM.moveP b lo hi p = p by unfold UM.moveP; rw [if_neg (by simp [hp])]))
    have KT := Lib.hid (fun p (hp : p.known = true) => (show UM.moveP b lo hi p = ⟨p.exp, CM.clamp (p.price + b) lo hi, true⟩ by unfold UM.moveP; rw [if_pos hp]))
    have MS := Lib.hid (fun k (hk : k < l.length) => mix_succ (UM.moveP b lo hi) l hk)
    have ME := Lib.hid (fun k (hk : k < l.length) => mix_same (UM.moveP b lo hi) l hk)
    have ML' := Lib.hid (fun k (hk : k ≤ l.length) => mix_len (UM.moveP b lo hi) l hk)
    have MA := Lib.hid (fun k (hk : k < l.length) => mix_at (UM.moveP b lo hi) l hk)
    have MZ := Lib.hid (mix_zero (UM.moveP b lo hi) l)
    have MX := Lib.hid (mix_end (UM.moveP b lo hi) l)
    generalize UM.moveP b lo hi = f at *
    clear hI h g hb g1 g2 g3
    go_enter Try.func17, Try.ntmps17
    go_wp2_with fail
    refine C1.out.mono ?_
    rintro e w1 ⟨rfl, b1⟩
    have HB1 := Lib.hid b1
    have HI1 := Lib.hid (HI.out.below b1)
    clear b1 C1
    go_wp2_with fail
    refine (P1.out _).mono ?_
    rintro e w2 ⟨rfl, rfl⟩
    go_wp2_with fail
    refine (P2.out _).mono ?_
    rintro e w2 ⟨rfl, rfl⟩
    go_wp2_with fail
    refine (P3.out _).mono ?_
    rintro e w2 ⟨rfl, rfl⟩
    go_wp2_with fail
    refine (C2.out _ HI1.out.1).mono ?_
    rintro e w2 ⟨v, rfl, hO, b2⟩
    have HB2 := Lib.hid (HB1.out.trans (b2.mono HB1.out.size))
    have HO := Lib.hid (hO.lower HB1.out.size)
    clear b2 HB1 HI1 C2
    obtain ⟨gg, cc, rfl, hgB⟩ : ∃ gg cc, v = .slice (some ⟨gg, 0, none⟩) l.length cc ∧ w.heap.size ≤ gg := by
      rcases HO.out.form with ⟨_, e⟩ | ⟨gg, cc, e, h1, _, _⟩
      · have e2 : l.length = 0 := by simpa using congrArg List.length e
        omega
      · rw [List.length_map] at e
        exact ⟨gg, cc, e, h1⟩
    clear hO
    go_wp2_with fail
    go_loopw [11, 12, 38] (fun _ _ i wr => ∃ k : Nat, k ≤ l.length ∧ i = .int .i64 (k : Int) ∧ Hid (OwnR wr w.heap.size 44 3 (.slice (some ⟨gg, 0, none⟩) l.length cc) ((mixL f l k).map ptV)) ∧ Hid (Below w.heap.size w wr)) (fun _ _ i _ => l.length - (intOf i).toNat)
    case atStart => exact ⟨0, by omega, rfl, by rw [MZ.out]; exact HO, HB2⟩
    case round =>
      clear HO HB2
      obtain ⟨k, hk, rfl, HO, HB⟩ := hrel
      by_cases hlt : k < l.length
      · have HSU := Lib.hid (MS.out k hlt)
        have HSA := Lib.hid (ME.out k hlt)
        have HLN := Lib.hid (ML'.out k hk)
        have HMA := Lib.hid (MA.out k hlt)
        have HKB := KB.out k hlt
        have HKL := Lib.hid (show k < ((mixL f l k).map ptV).length by rw [List.length_map, HLN.out]; exact hlt)
        have KF1 := Lib.hid (KF.out (UM.pAt l k))
        have KT1 := Lib.hid (KT.out (UM.pAt l k))
        generalize UM.pAt l k = t at *
        obtain ⟨te, tp, tk⟩ := t
        have o0 := HO.out.cell HKL.out (show 0 < 3 by omega)
        have o1 := HO.out.cell HKL.out (show 1 < 3 by omega)
        have o2 := HO.out.cell HKL.out (show 2 < 3 by omega)
        rw [HMA.out] at o0 o1 o2
        simp only [ptV, List.getElem?_cons_zero, List.getElem?_cons_succ, Nat.add_zero] at o0 o1 o2
        have hgl : gg < wr.heap.size := by
          rcases HO.out.form with ⟨e, _⟩ | ⟨g', c', e, _, h2, _⟩
          · cases e
          · injection e with e
            injection e with e
            injection e with e
            omega
        have HBx := Lib.hid (below_al HB.out (.cells #[.int .i64 te, .int .i64 tp, .bool tk] 44))
        have HOx := Lib.hid (HO.out.alloc (.cells #[.int .i64 te, .int .i64 tp, .bool tk] 44))
        have HT := CB.new wr 44 #[.int .i64 te, .int .i64 tp, .bool tk]
        have f0 := HT.cell 0
        have f1 := HT.cell 1
        have f2 := HT.cell 2
        have p1 := HOx.out.cell HKL.out (show 1 < 3 by omega)
        rw [HMA.out] at p1
        have fO := HOx.out.frozen
        simp only [ptV, List.getElem?_toArray, List.getElem?_cons_zero, List.getElem?_cons_succ, Nat.add_zero] at f0 f1 f2 p1
        clear HT
        cases tk
        · have HSA2 : Hid (mixL f l (k + 1) = mixL f l k) := Lib.hid (HSA.out (KF1.out rfl))
          clear HSU HSA KF1 KT1 HKB
          go_wp2_with fail
          go_roundw
          case rel => exact ⟨k + 1, by omega, by go_num, by rw [HSA2.out]; exact HOx, HBx⟩
          case measure => simp [intOf]; omega
        · have HSU2 : Hid (mixL f l (k + 1) = (mixL f l k).set k ⟨te, CM.clamp (tp + b) lo hi, true⟩) := Lib.hid (by rw [HSU.out, KT1.out rfl])
          have C4 := Lib.hid (fun ww => C3.out (tp + b) ww)
          have hbt : -16777216 ≤ tp ∧ tp ≤ 16777216 := HKB rfl
          have HMA2 : Hid (((mixL f l k).map ptV).getD k [] = [.int .i64 te, .int .i64 tp, .bool true]) := Lib.hid (by rw [HMA.out]; rfl)
          clear HSU HSA KF1 KT1 HKB
          generalize CM.clamp (tp + b) lo hi = z at *
          have HO6 := Lib.hid ((HO.out.put1 (i := k) HKL.out (.int .i64 z) HMA2.out).alloc (.cells #[.int .i64 te, .int .i64 tp, .bool true] 44))
          have HB6 := Lib.hid (below_al (HB.out.setCell (p := ⟨gg, k * 3 + 1, none⟩) hgB (.int .i64 z)) (.cells #[.int .i64 te, .int .i64 tp, .bool true] 44))
          go_wp2_with fail
          refine (C4.out _).mono ?_
          rintro e w5 ⟨rfl, rfl⟩
          go_wp2_with fail
          go_roundw
          case rel => exact ⟨k + 1, by omega, by go_num, by rw [HSU2.out, map_put]; exact HO6, HB6⟩
          case measure => simp [intOf]; omega
      · obtain rfl : k = l.length := by omega
        rw [MX.out] at HO
        go_wp2_with fail
        go_ret2
        exact ⟨_, rfl, HO.out, HB.out⟩
  · have hd : (UM.checkE l != 0) = true := by simpa using h
    rw [UM.move_no (by rw [UM.move_e8 h]; exact h), UM.move_e8 h]
    generalize UM.checkE l = y at *
    clear h hI
    go_enter Try.func17, Try.ntmps17
    go_wp2_with fail
    refine C1.out.mono ?_
    rintro e w1 ⟨rfl, b1⟩
    have HB := Lib.hid b1
    clear b1 C1
    go_wp2_with fail
    go_ret2
    exact ⟨_, rfl, OwnR.nil _ _ _ _, HB.out⟩
end Go.Proofs.Ytagmknahmkniaaa

/- Contracts of layer 19: the reference's Shift. -/
namespace Go.Proofs.Ytagmknahmkniaaa
open Go.RowKit Go.Recs
set_option linter.unusedVariables false
set_option linter.unusedSimpArgs false
theorem ruwithin_any (n : Int) (w : World) : Calls Try.prog 33 #[.int .i64 n] w fun e w' => e = .returned (.bool (UM.isP n)) ∧ w = w' := by
  by_cases h1 : -16777216 ≤ n
  · by_cases h2 : n ≤ 16777216
    · rw [UM.isP_true.2 ⟨h1, h2⟩]
      go_enter Try.func33, Try.ntmps33
      go_wp2
      go_ret
      exact ⟨rfl, rfl⟩
    · have e : UM.isP n = false := QM.within_false.2 (.inr (by omega))
      rw [e]; clear e
      go_enter Try.func33, Try.ntmps33
      go_wp2
      go_ret
      exact ⟨rfl, rfl⟩
  · have e : UM.isP n = false := QM.within_false.2 (.inl (by omega))
    rw [e]; clear e
    go_enter Try.func33, Try.ntmps33
    go_wp2
    go_ret
    exact ⟨rfl, rfl⟩
set_option maxHeartbeats 8000000 in
set_option maxRecDepth 100000 in
theorem rshift_any (A : Option Addr) (l : List UM.Pt) (n cap : Nat) (hn : n = l.length) (b lo hi : Int) (hlo : i64 lo) (hhi : i64 hi) (w : World) (hI : Pts w A l) :
    Calls Try.prog 18 #[.slice A n cap, .int .i64 b, .int .i64 lo, .int .i64 hi] w fun e w' => ∃ v, e = .returned (.tuple #[v, .int .i64 (UM.moveE l b lo hi)]) ∧ OwnR w' w.heap.size 44 3 v ((UM.moveR l b lo hi).map ptV) ∧ Below w.heap.size w w' := by
  subst hn
  have hlen := hI.len
  have C1 := Lib.hid (rucheck_any A l l.length cap rfl w hI)
  have P1 := Lib.hid (fun ww => ruwithin_any b ww)
  have P2 := Lib.hid (fun ww => ruwithin_any lo ww)
  have P3 := Lib.hid (fun ww => ruwithin_any hi ww)
  by_cases h : UM.checkE l = 0
  · rw [h] at C1
    cases hb : UM.isP b
    · rw [UM.move_no (by rw [UM.move_e17 h hb]; decide), UM.move_e17 h hb]
      rw [hb] at P1
      clear h hb hI
      go_enter Try.func18, Try.ntmps18
      go_wp2_with fail
      refine C1.out.mono ?_
      rintro e w1 ⟨rfl, k1, rfl⟩
      go_wp2_with fail
      refine (P1.out _).mono ?_
      rintro e w2 ⟨rfl, rfl⟩
      go_wp2_with fail
      go_ret2
      exact ⟨_, rfl, OwnR.nil _ _ _ _, below_drewN (Below.refl _ _) _⟩
    by_cases hlt : hi < lo
    · have h2 : (UM.isP lo && UM.isP hi && decide (lo ≤ hi)) = false := by
        rw [decide_eq_false (by omega)]; simp
      rw [UM.move_no (by rw [UM.move_e2 h hb h2]; decide), UM.move_e2 h hb h2]
      rw [hb] at P1
      have hd : decide (hi < lo) = true := by simpa using hlt
      clear h hb hI h2
      go_enter Try.func18, Try.ntmps18
      go_wp2_with fail
      refine C1.out.mono ?_
      rintro e w1 ⟨rfl, k1, rfl⟩
      go_wp2_with fail
      refine (P1.out _).mono ?_
      rintro e w2 ⟨rfl, rfl⟩
      go_wp2_with fail
      go_ret2
      exact ⟨_, rfl, OwnR.nil _ _ _ _, below_drewN (Below.refl _ _) _⟩
    have hd : decide (hi < lo) = false := by simpa using hlt
    cases g1 : UM.isP lo
    · have h2 : (UM.isP lo && UM.isP hi && decide (lo ≤ hi)) = false := by rw [g1]; rfl
      rw [UM.move_no (by rw [UM.move_e2 h hb h2]; decide), UM.move_e2 h hb h2]
      rw [hb] at P1
      rw [g1] at P2
      clear h hb hI h2 g1
      go_enter Try.func18, Try.ntmps18
      go_wp2_with fail
      refine C1.out.mono ?_
      rintro e w1 ⟨rfl, k1, rfl⟩
      go_wp2_with fail
      refine (P1.out _).mono ?_
      rintro e w2 ⟨rfl, rfl⟩
      go_wp2_with fail
      refine (P2.out _).mono ?_
      rintro e w2 ⟨rfl, rfl⟩
      go_wp2_with fail
      go_ret2
      exact ⟨_, rfl, OwnR.nil _ _ _ _, below_drewN (Below.refl _ _) _⟩
    cases g2 : UM.isP hi
    · have h2 : (UM.isP lo && UM.isP hi && decide (lo ≤ hi)) = false := by rw [g1, g2]; rfl
      rw [UM.move_no (by rw [UM.move_e2 h hb h2]; decide), UM.move_e2 h hb h2]
      rw [hb] at P1
      rw [g1] at P2
      rw [g2] at P3
      clear h hb hI h2 g1 g2
      go_enter Try.func18, Try.ntmps18
      go_wp2_with fail
      refine C1.out.mono ?_
      rintro e w1 ⟨rfl, k1, rfl⟩
      go_wp2_with fail
      refine (P1.out _).mono ?_
      rintro e w2 ⟨rfl, rfl⟩
      go_wp2_with fail
      refine (P2.out _).mono ?_
      rintro e w2 ⟨rfl, rfl⟩
      go_wp2_with fail
      refine (P3.out _).mono ?_
      rintro e w2 ⟨rfl, rfl⟩
      go_wp2_with fail
      go_ret2
      exact ⟨_, rfl, OwnR.nil _ _ _ _, below_drewN (Below.refl _ _) _⟩
    have h2 : (UM.isP lo && UM.isP hi && decide (lo ≤ hi)) = true := by rw [g1, g2, decide_eq_true (by omega)]; rfl
    rw [UM.move_yes (UM.move_e0 h hb h2), UM.move_e0 h hb h2]
    have g := UM.check_good.1 h
    have hbb := UM.isP_true.1 hb
    have hl2 := g.len
    rw [hb] at P1
    rw [g1] at P2
    rw [g2] at P3
    have HI := Lib.hid hI
    have KB := Lib.hid (fun k (hk : k < l.length) => (g.ord.mem _ (UM.pAt_mem hk)).2.2)
    have KF := Lib.hid (fun p (hp : p.known = false) => (show UM.moveP b lo hi p = p by unfold UM.moveP; rw [if_neg (by simp [hp])]))
    have KT := Lib.hid (fun p (hp : p.known = true) => (show UM.moveP b lo hi p = ⟨p.exp, CM.clamp (p.price + b) lo hi, true⟩ by unfold UM.moveP; rw [if_pos hp]))
    have TS := Lib.hid (fun k (hk : k < l.length) => UM.tk_succ (UM.moveP b lo hi) l hk)
    have TA := Lib.hid (UM.tk_all (UM.moveP b lo hi) l)
    generalize UM.moveP b lo hi = f at *
    clear hI h g hb g1 g2 h2 hlo hhi
    go_enter Try.func18, Try.ntmps18
    go_wp2_with fail
    refine C1.out.mono ?_
    rintro e w1 ⟨rfl, k1, rfl⟩
    have HB1 : Hid (Below w.heap.size w (w.drewN k1)) := Lib.hid (below_drewN (Below.refl _ _) k1)
    have HI1 : Hid (Pts (w.drewN k1) A l) := Lib.hid HI.out
    generalize w.drewN k1 = w1 at *
    clear C1
    go_wp2_with fail
    refine (P1.out _).mono ?_
    rintro e w2 ⟨rfl, rfl⟩
    go_wp2_with fail
    refine (P2.out _).mono ?_
    rintro e w2 ⟨rfl, rfl⟩
    go_wp2_with fail
    refine (P3.out _).mono ?_
    rintro e w2 ⟨rfl, rfl⟩
    go_wp2_with fail
    go_loopw [11, 12, 13] (fun sv i _ wr => ∃ (k : Nat) (v : Value), v = sv ∧ k ≤ l.length ∧ i = .int .i64 (k : Int) ∧ Hid (OwnR wr w1.heap.size 44 3 v (((l.map f).take k).map ptV)) ∧ Hid (Below w1.heap.size w1 wr)) (fun _ i _ _ => l.length - (intOf i).toNat)
    case atStart => exact ⟨0, _, rfl, by omega, rfl, Lib.hid (OwnR.empty w1 w1.heap.size 44 3 (Nat.le_refl _)), Lib.hid (below_al (Below.refl _ _) _)⟩
    case round =>
      obtain ⟨k, v, rfl, hk, rfl, HO, HB⟩ := hrel
      by_cases hlk : k < l.length
      · obtain ⟨bl, off, t, rfl, hbl, HV, q, d0, d1, d2⟩ := pts_get (HI1.out.below HB.out) hlk
        have HS := Lib.hid (TS.out k hlk)
        have hkb := KB.out k hlk
        rw [HV.out] at HS hkb
        have HZ1 : Hid (((((l.map f).take k).map ptV).length + 1) * 24 ≤ 140737488355328 ∧ (((l.map f).take k).map ptV).length + 1 ≤ maxLen) := Lib.hid (by rw [List.length_map, List.length_take, List.length_map]; simp only [maxLen]; omega)
        have HT1 : Hid (((l.map f).take (k + 1)).map ptV = ((l.map f).take k).map ptV ++ [ptV (f t)]) := Lib.hid (by rw [HS.out, List.map_append]; rfl)
        obtain ⟨rows, hrows⟩ : ∃ rows, ((l.map f).take k).map ptV = rows := ⟨_, rfl⟩
        rw [hrows] at HO HZ1 HT1
        obtain ⟨te, tp, tk⟩ := t
        simp only [] at d0 d1 d2
        clear q HV HS hrows
        cases tk
        · rw [KF.out _ rfl] at HT1
          have HBx := Lib.hid (below_al HB.out (.cells #[.int .i64 te, .int .i64 tp, .bool false] 44))
          have HOx := Lib.hid (HO.out.alloc (.cells #[.int .i64 te, .int .i64 tp, .bool false] 44))
          have hT := CB.new wr 44 #[.int .i64 te, .int .i64 tp, .bool false]
          have f0 := hT.cell 0
          have f1 := hT.cell 1
          have f2 := hT.cell 2
          simp only [List.getElem?_toArray, List.getElem?_cons_zero, List.getElem?_cons_succ] at f0 f1 f2
          clear hT hkb
          go_wp2_with (at_builtin; refine wpList_pushR (wr.alloc (.cells #[.int .i64 te, .int .i64 tp, .bool false] 44)) (ptV ⟨te, tp, false⟩) (ptV_one _) w1.heap.size rows _ _ _ 44 3 24 _ Try.underlying22 info_pt rfl (by decide) rfl rfl rfl v (by rfl) (by first | rfl | simp [Act.eval, Act.put]) HOx.out HZ1.out.1 HZ1.out.2 HBx.out.size ?_)
          rintro v2 w2 o2 b2 s2 g2'
          have HO2 : Hid (OwnR w2 w1.heap.size 44 3 v2 (((l.map f).take (k + 1)).map ptV)) := Lib.hid (by rw [HT1.out]; exact o2)
          have HB2 := Lib.hid (HBx.out.trans b2)
          clear o2 b2 s2 g2' HO HB HOx HBx d0 d1 d2 f0 f1 f2
          go_wp2_with fail
          go_roundw
          case rel => exact ⟨k + 1, _, rfl, by omega, by go_num, HO2, HB2⟩
          case measure => simp [intOf]; omega
        · rw [KT.out _ rfl] at HT1
          have hbt : -16777216 ≤ tp ∧ tp ≤ 16777216 := hkb rfl
          have hcl : CM.clamp (tp + b) lo hi = if tp + b < lo then lo else if hi < tp + b then hi else tp + b := by
            unfold CM.clamp
            by_cases c : tp + b < lo
            · rw [if_pos (.inl c), if_pos c]
            · rw [if_neg (by omega), if_neg c]
          have HCL := Lib.hid hcl
          clear hkb hcl
          rcases Int.lt_trichotomy (tp + b) lo with c | c | c
          · rcases Int.lt_trichotomy lo hi with c2 | c2 | c2
            · have hx : True := trivial
              have HT2 : Hid (((l.map f).take (k + 1)).map ptV = rows ++ [ptV ⟨te, lo, true⟩]) := Lib.hid (by rw [HT1.out, HCL.out]; congr 4; (repeat' split) <;> omega)
              have HBx := Lib.hid (below_al HB.out (.cells #[.int .i64 te, .int .i64 (lo), .bool true] 44))
              have HOx := Lib.hid (HO.out.alloc (.cells #[.int .i64 te, .int .i64 (lo), .bool true] 44))
              clear HCL HT1
              go_wp2_with (at_builtin; refine wpList_pushR (wr.alloc (.cells #[.int .i64 te, .int .i64 (lo), .bool true] 44)) (ptV ⟨te, lo, true⟩) (ptV_one _) w1.heap.size rows _ _ _ 44 3 24 _ Try.underlying22 info_pt rfl (by decide) rfl rfl rfl v (by rfl) (by first | rfl | simp [Act.eval, Act.put]) HOx.out HZ1.out.1 HZ1.out.2 HBx.out.size ?_)
              rintro v2 w2 o2 b2 s2 g2'
              have HO2 : Hid (OwnR w2 w1.heap.size 44 3 v2 (((l.map f).take (k + 1)).map ptV)) := Lib.hid (by rw [HT2.out]; exact o2)
              have HB2 := Lib.hid (HBx.out.trans b2)
              clear o2 b2 s2 g2' HO HB HOx HBx d0 d1 d2
              go_wp2_with fail
              go_roundw
              case rel => exact ⟨k + 1, _, rfl, by omega, by go_num, HO2, HB2⟩
              case measure => simp [intOf]; omega
            · subst c2
              have HT2 : Hid (((l.map f).take (k + 1)).map ptV = rows ++ [ptV ⟨te, lo, true⟩]) := Lib.hid (by rw [HT1.out, HCL.out]; congr 4; (repeat' split) <;> omega)
              have HBx := Lib.hid (below_al HB.out (.cells #[.int .i64 te, .int .i64 (lo), .bool true] 44))
              have HOx := Lib.hid (HO.out.alloc (.cells #[.int .i64 te, .int .i64 (lo), .bool true] 44))
              clear HCL HT1
              go_wp2_with (at_builtin; refine wpList_pushR (wr.alloc (.cells #[.int .i64 te, .int .i64 (lo), .bool true] 44)) (ptV ⟨te, lo, true⟩) (ptV_one _) w1.heap.size rows _ _ _ 44 3 24 _ Try.underlying22 info_pt rfl (by decide) rfl rfl rfl v (by rfl) (by first | rfl | simp [Act.eval, Act.put]) HOx.out HZ1.out.1 HZ1.out.2 HBx.out.size ?_)
              rintro v2 w2 o2 b2 s2 g2'
              have HO2 : Hid (OwnR w2 w1.heap.size 44 3 v2 (((l.map f).take (k + 1)).map ptV)) := Lib.hid (by rw [HT2.out]; exact o2)
              have HB2 := Lib.hid (HBx.out.trans b2)
              clear o2 b2 s2 g2' HO HB HOx HBx d0 d1 d2
              go_wp2_with fail
              go_roundw
              case rel => exact ⟨k + 1, _, rfl, by omega, by go_num, HO2, HB2⟩
              case measure => simp [intOf]; omega
            · exfalso; omega
          · subst c
            rcases Int.lt_trichotomy (tp + b) hi with c2 | c2 | c2
            · have hx : True := trivial
              have HT2 : Hid (((l.map f).take (k + 1)).map ptV = rows ++ [ptV ⟨te, tp + b, true⟩]) := Lib.hid (by rw [HT1.out, HCL.out]; congr 4; (repeat' split) <;> omega)
              have HBx := Lib.hid (below_al HB.out (.cells #[.int .i64 te, .int .i64 (tp + b), .bool true] 44))
              have HOx := Lib.hid (HO.out.alloc (.cells #[.int .i64 te, .int .i64 (tp + b), .bool true] 44))
              clear HCL HT1
              go_wp2_with (at_builtin; refine wpList_pushR (wr.alloc (.cells #[.int .i64 te, .int .i64 (tp + b), .bool true] 44)) (ptV ⟨te, tp + b, true⟩) (ptV_one _) w1.heap.size rows _ _ _ 44 3 24 _ Try.underlying22 info_pt rfl (by decide) rfl rfl rfl v (by rfl) (by first | rfl | simp [Act.eval, Act.put]) HOx.out HZ1.out.1 HZ1.out.2 HBx.out.size ?_)
              rintro v2 w2 o2 b2 s2 g2'
              have HO2 : Hid (OwnR w2 w1.heap.size 44 3 v2 (((l.map f).take (k + 1)).map ptV)) := Lib.hid (by rw [HT2.out]; exact o2)
              have HB2 := Lib.hid (HBx.out.trans b2)
              clear o2 b2 s2 g2' HO HB HOx HBx d0 d1 d2
              go_wp2_with fail
              go_roundw
              case rel => exact ⟨k + 1, _, rfl, by omega, by go_num, HO2, HB2⟩
              case measure => simp [intOf]; omega
            · subst c2
              have HT2 : Hid (((l.map f).take (k + 1)).map ptV = rows ++ [ptV ⟨te, tp + b, true⟩]) := Lib.hid (by rw [HT1.out, HCL.out]; congr 4; (repeat' split) <;> omega)
              have HBx := Lib.hid (below_al HB.out (.cells #[.int .i64 te, .int .i64 (tp + b), .bool true] 44))
              have HOx := Lib.hid (HO.out.alloc (.cells #[.int .i64 te, .int .i64 (tp + b), .bool true] 44))
              clear HCL HT1
              go_wp2_with (at_builtin; refine wpList_pushR (wr.alloc (.cells #[.int .i64 te, .int .i64 (tp + b), .bool true] 44)) (ptV ⟨te, tp + b, true⟩) (ptV_one _) w1.heap.size rows _ _ _ 44 3 24 _ Try.underlying22 info_pt rfl (by decide) rfl rfl rfl v (by rfl) (by first | rfl | simp [Act.eval, Act.put]) HOx.out HZ1.out.1 HZ1.out.2 HBx.out.size ?_)
              rintro v2 w2 o2 b2 s2 g2'
              have HO2 : Hid (OwnR w2 w1.heap.size 44 3 v2 (((l.map f).take (k + 1)).map ptV)) := Lib.hid (by rw [HT2.out]; exact o2)
              have HB2 := Lib.hid (HBx.out.trans b2)
              clear o2 b2 s2 g2' HO HB HOx HBx d0 d1 d2
              go_wp2_with fail
              go_roundw
              case rel => exact ⟨k + 1, _, rfl, by omega, by go_num, HO2, HB2⟩
              case measure => simp [intOf]; omega
            · exfalso; omega
          · rcases Int.lt_trichotomy (tp + b) hi with c2 | c2 | c2
            · have hx : True := trivial
              have HT2 : Hid (((l.map f).take (k + 1)).map ptV = rows ++ [ptV ⟨te, tp + b, true⟩]) := Lib.hid (by rw [HT1.out, HCL.out]; congr 4; (repeat' split) <;> omega)
              have HBx := Lib.hid (below_al HB.out (.cells #[.int .i64 te, .int .i64 (tp + b), .bool true] 44))
              have HOx := Lib.hid (HO.out.alloc (.cells #[.int .i64 te, .int .i64 (tp + b), .bool true] 44))
              clear HCL HT1
              go_wp2_with (at_builtin; refine wpList_pushR (wr.alloc (.cells #[.int .i64 te, .int .i64 (tp + b), .bool true] 44)) (ptV ⟨te, tp + b, true⟩) (ptV_one _) w1.heap.size rows _ _ _ 44 3 24 _ Try.underlying22 info_pt rfl (by decide) rfl rfl rfl v (by rfl) (by first | rfl | simp [Act.eval, Act.put]) HOx.out HZ1.out.1 HZ1.out.2 HBx.out.size ?_)
              rintro v2 w2 o2 b2 s2 g2'
              have HO2 : Hid (OwnR w2 w1.heap.size 44 3 v2 (((l.map f).take (k + 1)).map ptV)) := Lib.hid (by rw [HT2.out]; exact o2)
              have HB2 := Lib.hid (HBx.out.trans b2)
              clear o2 b2 s2 g2' HO HB HOx HBx d0 d1 d2
              go_wp2_with fail
              go_roundw
              case rel => exact ⟨k + 1, _, rfl, by omega, by go_num, HO2, HB2⟩
              case measure => simp [intOf]; omega
            · subst c2
              have HT2 : Hid (((l.map f).take (k + 1)).map ptV = rows ++ [ptV ⟨te, tp + b, true⟩]) := Lib.hid (by rw [HT1.out, HCL.out]; congr 4; (repeat' split) <;> omega)
              have HBx := Lib.hid (below_al HB.out (.cells #[.int .i64 te, .int .i64 (tp + b), .bool true] 44))
              have HOx := Lib.hid (HO.out.alloc (.cells #[.int .i64 te, .int .i64 (tp + b), .bool true] 44))
              clear HCL HT1
              go_wp2_with (at_builtin; refine wpList_pushR (wr.alloc (.cells #[.int .i64 te, .int .i64 (tp + b), .bool true] 44)) (ptV ⟨te, tp + b, true⟩) (ptV_one _) w1.heap.size rows _ _ _ 44 3 24 _ Try.underlying22 info_pt rfl (by decide) rfl rfl rfl v (by rfl) (by first | rfl | simp [Act.eval, Act.put]) HOx.out HZ1.out.1 HZ1.out.2 HBx.out.size ?_)
              rintro v2 w2 o2 b2 s2 g2'
              have HO2 : Hid (OwnR w2 w1.heap.size 44 3 v2 (((l.map f).take (k + 1)).map ptV)) := Lib.hid (by rw [HT2.out]; exact o2)
              have HB2 := Lib.hid (HBx.out.trans b2)
              clear o2 b2 s2 g2' HO HB HOx HBx d0 d1 d2
              go_wp2_with fail
              go_roundw
              case rel => exact ⟨k + 1, _, rfl, by omega, by go_num, HO2, HB2⟩
              case measure => simp [intOf]; omega
            · have hx : True := trivial
              have HT2 : Hid (((l.map f).take (k + 1)).map ptV = rows ++ [ptV ⟨te, hi, true⟩]) := Lib.hid (by rw [HT1.out, HCL.out]; congr 4; (repeat' split) <;> omega)
              have HBx := Lib.hid (below_al HB.out (.cells #[.int .i64 te, .int .i64 (hi), .bool true] 44))
              have HOx := Lib.hid (HO.out.alloc (.cells #[.int .i64 te, .int .i64 (hi), .bool true] 44))
              clear HCL HT1
              go_wp2_with (at_builtin; refine wpList_pushR (wr.alloc (.cells #[.int .i64 te, .int .i64 (hi), .bool true] 44)) (ptV ⟨te, hi, true⟩) (ptV_one _) w1.heap.size rows _ _ _ 44 3 24 _ Try.underlying22 info_pt rfl (by decide) rfl rfl rfl v (by rfl) (by first | rfl | simp [Act.eval, Act.put]) HOx.out HZ1.out.1 HZ1.out.2 HBx.out.size ?_)
              rintro v2 w2 o2 b2 s2 g2'
              have HO2 : Hid (OwnR w2 w1.heap.size 44 3 v2 (((l.map f).take (k + 1)).map ptV)) := Lib.hid (by rw [HT2.out]; exact o2)
              have HB2 := Lib.hid (HBx.out.trans b2)
              clear o2 b2 s2 g2' HO HB HOx HBx d0 d1 d2
              go_wp2_with fail
              go_roundw
              case rel => exact ⟨k + 1, _, rfl, by omega, by go_num, HO2, HB2⟩
              case measure => simp [intOf]; omega
      · obtain rfl : k = l.length := by omega
        rw [TA.out] at HO
        have HBF := Lib.hid (HB1.out.trans (HB.out.mono HB1.out.size))
        go_wp2_with fail
        go_ret2
        exact ⟨v, rfl, HO.out.lower HB1.out.size, HBF.out⟩
  · have hd : (UM.checkE l != 0) = true := by simpa using h
    rw [UM.move_no (by rw [UM.move_e8 h]; exact h), UM.move_e8 h]
    generalize UM.checkE l = y at *
    clear h hI
    go_enter Try.func18, Try.ntmps18
    go_wp2_with fail
    refine C1.out.mono ?_
    rintro e w1 ⟨rfl, k1, rfl⟩
    go_wp2_with fail
    go_ret2
    exact ⟨_, rfl, OwnR.nil _ _ _ _, below_drewN (Below.refl _ _) _⟩
end Go.Proofs.Ytagmknahmkniaaa

/- Contracts of layer 19's laws: an answer is written over. -/
namespace Go.Proofs.Ytagmknahmkniaaa
open Go.RowKit Go.Recs
set_option linter.unusedVariables false
set_option linter.unusedSimpArgs false
/-- of what was there only block g may have turned -/
structure But (g : Option Nat) (w w' : World) : Prop where
  os : w'.os = w.os
  tape : w'.tape = w.tape
  output : w'.output = w.output
  size : w.heap.size ≤ w'.heap.size
  block : ∀ b, b < w.heap.size → g ≠ some b → w'.heap[b]? = w.heap[b]?
theorem But.refl (g : Option Nat) (w : World) : But g w w := ⟨rfl, rfl, rfl, Nat.le_refl _, fun _ _ _ => rfl⟩
theorem But.setCell {g : Nat} {a w : World} (h : But (some g) a w) (i : Nat) (u : Value) : But (some g) a (w.setCell ⟨g, i, none⟩ u) :=
  ⟨h.os, h.tape, h.output, by simpa [World.setCell] using h.size, fun b hb hs => (Below.heap_setCell w ⟨g, i, none⟩ u b (fun e => hs (by rw [e]))).trans (h.block b hb hs)⟩
theorem But.below {g : Option Nat} {w w' : World} {B : Nat} (h : But g w w') (hg : ∀ k, g = some k → B ≤ k) (hB : B ≤ w.heap.size) : Below B w w' :=
  ⟨h.os, h.tape, h.output, h.size, fun k hk => h.block k (by omega) (fun hs => by have := hg k hs; omega)⟩
set_option maxHeartbeats 4000000 in
set_option maxRecDepth 100000 in
theorem touched_any (v : Value) (rows : List (List Value)) (B : Nat) (w : World) (hO : OwnR w B 44 3 v rows) :
    Calls Try.prog 19 #[v] w fun e w' => (∃ r, e = .returned r) ∧ But v.ownBlock w w' := by
  rcases hO.form with ⟨rfl, rfl⟩ | ⟨g, cap, rfl, hgB, hgl, hcap⟩
  · go_enter Try.func19, Try.ntmps19
    go_wp2_with fail
    go_loop [2, 5] (fun _ i => i = .int .i64 0) (fun _ _ => 0)
    case atStart => rfl
    case round =>
      obtain rfl := hrel
      go_wp2_with fail
      go_end0
      exact ⟨⟨_, rfl⟩, But.refl _ _⟩
  · have hlen := hO.len
    simp only [maxLen] at hlen
    have HO := Lib.hid hO
    clear hO
    go_enter Try.func19, Try.ntmps19
    go_wp2_with fail
    go_loopw [2, 5] (fun _ i wr => ∃ (k : Nat) (rs : List (List Value)), k ≤ rows.length ∧ i = .int .i64 (k : Int) ∧ rs.length = rows.length ∧ Hid (OwnR wr B 44 3 (.slice (some ⟨g, 0, none⟩) rows.length cap) rs) ∧ Hid (But (some g) w wr)) (fun _ i _ => rows.length - (intOf i).toNat)
    case atStart => exact ⟨0, rows, Nat.zero_le _, rfl, rfl, HO, Lib.hid (But.refl _ _)⟩
    case round =>
      clear HO
      obtain ⟨k, rs, hk, rfl, hrl, HO, HB⟩ := hrel
      by_cases hlt : k < rows.length
      · have hkl : k < rs.length := by omega
        have hr : (rs.getD k []).length = 3 := HO.out.1 _ (by simp [List.getD, hkl])
        obtain ⟨x, y, z, hxyz⟩ : ∃ x y z, rs.getD k [] = [x, y, z] := by
          match rs.getD k [], hr with
          | [x, y, z], _ => exact ⟨x, y, z, rfl⟩
        have o0 := HO.out.cell hkl (show 0 < 3 by omega)
        have o1 := HO.out.cell hkl (show 1 < 3 by omega)
        have o2 := HO.out.cell hkl (show 2 < 3 by omega)
        rw [hxyz] at o0 o1 o2
        simp only [List.getElem?_cons_zero, List.getElem?_cons_succ, Nat.add_zero] at o0 o1 o2
        have fO := HO.out.frozen
        have HO2 := Lib.hid (HO.out.put3 hkl (.int .i64 (-7)) (.int .i64 0) (.bool false))
        have HB2 := Lib.hid (((HB.out.setCell (k * 3) (.int .i64 (-7))).setCell (k * 3 + 1) (.int .i64 0)).setCell (k * 3 + 2) (.bool false))
        have HRL : Hid ((rs.set k [.int .i64 (-7), .int .i64 0, .bool false]).length = rows.length) := Lib.hid (by rw [List.length_set]; exact hrl)
        clear hr hxyz hkl hrl
        go_wp2_with fail
        go_roundw
        case rel => exact ⟨k + 1, _, by omega, by go_num, HRL.out, HO2, HB2⟩
        case measure => simp [intOf]; omega
      · obtain rfl : k = rows.length := by omega
        clear hrl
        go_wp2_with fail
        go_end0
        exact ⟨⟨_, rfl⟩, HB.out⟩
end Go.Proofs.Ytagmknahmkniaaa

/- Contracts of layer 19's laws: a fitted curve. -/
namespace UM
theorem ord_snoc {ls : List Pt} {p : Pt} : ∀ {e : Int}, Ord ls e → (∀ q ∈ ls, q.exp < p.exp) → e ≤ p.exp → p.exp ≤ 73048 → (p.known = true → isP p.price = true) → Ord (ls ++ [p]) e := by
  induction ls with
  | nil => intro e _ _ h1 h2 h3; exact ⟨h1, h2, h3, trivial⟩
  | cons q t ih =>
    rintro e ⟨a, b, c, d⟩ h h1 h2 h3
    exact ⟨a, b, c, ih d (fun x hx => h x (List.mem_cons_of_mem _ hx)) (by have := h q List.mem_cons_self; omega) h2 h3⟩
structure Fits (ls : List Pt) (d : Int) : Prop where
  ord : Ord ls 0
  mem : ∀ p ∈ ls, p.exp ≤ d ∧ -500000 ≤ p.price ∧ p.price ≤ 500000
  some : ls = [] ∨ ∃ p ∈ ls, p.known = true
theorem Fits.nil : Fits [] 0 := ⟨trivial, by simp, .inl rfl⟩
theorem Fits.snoc {ls : List Pt} {d : Int} (h : Fits ls d) {p : Pt} (hd : d < p.exp) (h0 : 0 ≤ p.exp ∧ p.exp ≤ 73048) (hp : -500000 ≤ p.price ∧ p.price ≤ 500000) (hk : ls = [] → p.known = true) : Fits (ls ++ [p]) p.exp := by
  refine ⟨ord_snoc h.ord (fun q hq => by have := (h.mem q hq).1; omega) h0.1 h0.2 (fun _ => isP_true.2 (by omega)), ?_, ?_⟩
  · intro q hq
    rcases List.mem_append.1 hq with hq | hq
    · have := h.mem q hq; omega
    · rw [List.mem_singleton] at hq; subst hq; omega
  · refine .inr ?_
    rcases h.some with e | ⟨q, hq, hqk⟩
    · exact ⟨p, by simp, hk e⟩
    · exact ⟨q, List.mem_append_left _ hq, hqk⟩
theorem Fits.good {ls : List Pt} {d : Int} (h : Fits ls d) (h1 : 1 ≤ ls.length ∧ ls.length ≤ 128) : Good ls := by
  refine ⟨h1, h.ord, ?_⟩
  rcases h.some with e | e
  · rw [e] at h1; simp at h1
  · exact e
theorem umod (x m : Int) (h1 : 1 ≤ m) : ∃ r, (Go.IntKind.u64.wrap x).tmod m = r ∧ 0 ≤ r ∧ r < m := by
  have h0 : 0 ≤ Go.IntKind.u64.wrap x := by rw [Go.IntKind.wrap_u64]; omega
  refine ⟨_, rfl, ?_, ?_⟩
  · rw [Int.tmod_eq_emod_of_nonneg h0]; exact Int.emod_nonneg _ (by omega)
  · rw [Int.tmod_eq_emod_of_nonneg h0]; exact Int.emod_lt_of_pos _ (by omega)
end UM
namespace Go.Proofs.Ytagmknahmkniaaa
open Go.RowKit Go.Recs
set_option linter.unusedVariables false
set_option linter.unusedSimpArgs false
theorem lit_pt (W : World) (x : UM.Pt) : Recs (W.alloc (.cells #[.int .i64 x.exp, .int .i64 x.price, .bool x.known] 44)) (some ⟨W.heap.size, 0, none⟩) 3 [ptV x] := by
  obtain ⟨A', cap, e, hr, _⟩ := OwnR.recs (OwnR.lit W W.heap.size 44 3 [ptV x] (by simp [ptV]) (Nat.le_refl _) (by simp [maxLen]))
  injection e with e
  subst e
  exact hr
theorem one_pt (x : UM.Pt) : ∀ r ∈ [ptV x], ∀ u ∈ r, u.oneCell' = true := fun r hr => by rw [List.mem_singleton.1 hr]; exact ptV_one x
set_option maxHeartbeats 8000000 in
set_option maxRecDepth 100000 in
theorem ufit_any (A : Option Addr) (l : List UM.Pt) (n cap : Nat) (hn : n = l.length) (tick b_ : Int) (w : World) (hI : Pts w A l) :
    Calls Try.prog 20 #[.slice A n cap, .int .i64 tick, .int .i64 b_] w fun e w' => ∃ (v : Value) (ls : List UM.Pt) (t m : Int), e = .returned (.tuple #[v, .int .i64 t, .int .i64 (2 * t * m)]) ∧ OwnR w' w.heap.size 44 3 v (ls.map ptV) ∧ UM.Good ls ∧ (∀ p ∈ ls, -500000 ≤ p.price ∧ p.price ≤ 500000) ∧ (1 ≤ t ∧ t ≤ 1000) ∧ (-500 ≤ m ∧ m ≤ 500) ∧ Below w.heap.size w w' := by
  subst hn
  have hlen := hI.len
  have HI := Lib.hid hI
  obtain ⟨r1, e1, g1, g2⟩ := UM.umod tick 1000 (by omega)
  obtain ⟨r2, e2, g3, g4⟩ := UM.umod b_ 1000 (by omega)
  have hby := UM.mul_in (a := r2 - 500) (b := 1 + r1) (M := 500) (N := 1000) ⟨by omega, by omega⟩ ⟨by omega, by omega⟩ (by omega)
  have hby2 : -1000000 ≤ 2 * (1 + r1) * (r2 - 500) ∧ 2 * (1 + r1) * (r2 - 500) ≤ 1000000 := by
    rw [Int.mul_assoc, Int.mul_comm (1 + r1)]; omega
  clear hI hby
  go_enter Try.func20, Try.ntmps20
  go_wp2_with fail
  go_loopw [9, 10, 11] (fun sv dv i wr => ∃ (k : Nat) (ls : List UM.Pt) (d : Int) (v : Value), v = sv ∧ k ≤ l.length ∧ k ≤ 60 ∧ i = .int .i64 (k : Int) ∧ dv = .int .i64 d ∧ ls.length = k ∧ (0 ≤ d ∧ d ≤ 500 * (k : Int)) ∧ Hid (UM.Fits ls d) ∧ Hid (OwnR wr w.heap.size 44 3 v (ls.map ptV)) ∧ Hid (Below w.heap.size w wr)) (fun _ _ i _ => l.length - (intOf i).toNat)
  case atStart => exact ⟨0, [], 0, _, rfl, by omega, by omega, rfl, rfl, rfl, by omega, Lib.hid UM.Fits.nil, Lib.hid (OwnR.empty w w.heap.size 44 3 (Nat.le_refl _)), Lib.hid (below_al (Below.refl _ _) _)⟩
  case round =>
    obtain ⟨k, ls, d, v, rfl, hk, h60, rfl, rfl, rfl, ⟨hd0, hd1⟩, HF, HO, HB⟩ := hrel
    have HSZ := Lib.hid HB.out.size
    by_cases hlt : ls.length < l.length
    · by_cases hc : ls.length < 60
      · obtain ⟨b, off, t, rfl, hb, HV, q, d0, d1, d2⟩ := pts_get (HI.out.below HB.out) hlt
        obtain ⟨te, tp, tk⟩ := t
        obtain ⟨r3, e3, g5, g6⟩ := UM.umod te 500 (by omega)
        obtain ⟨r4, e4, g7, g8⟩ := UM.umod tp 1000000 (by omega)
        have wr4 : IntKind.i64.wrap r4 = r4 := IntWalk.i64_in _ (by omega)
        have wr5 : IntKind.i64.wrap (r4 - 500000) = r4 - 500000 := IntWalk.i64_in _ (by omega)
        have HZ1 : Hid (((ls.map ptV).length + 1) * 24 ≤ 140737488355328 ∧ (ls.map ptV).length + 1 ≤ maxLen) := Lib.hid (by rw [List.length_map]; simp only [maxLen]; omega)
        simp only [] at d0 d1 d2
        clear q HV
        have hc' : ((ls.length : Nat) : Int) < 60 := by omega
        cases tk
        · rcases Nat.eq_zero_or_pos ls.length with h0 | h0
          · obtain rfl := List.eq_nil_of_length_eq_zero h0
            simp only [List.length_nil, Nat.zero_mul, Nat.add_zero, Nat.zero_add] at d0 d1 d2 hd1
            clear h0
            have HX := Lib.hid (HF.out.snoc (p := ⟨d + 1 + r3, r4 - 500000, true⟩) (by show d < d + 1 + r3; omega) ⟨by show 0 ≤ d + 1 + r3; omega, by show d + 1 + r3 ≤ _; omega⟩ ⟨by show _ ≤ r4 - 500000; omega, by show r4 - 500000 ≤ _; omega⟩ (fun _ => rfl))
            have HRK : Hid (Recs ((wr.alloc (.cells #[.int .i64 (d + 1 + r3), .int .i64 (r4 - 500000), .bool true] 44)).drew) (some ⟨wr.heap.size, 0, none⟩) 3 [ptV ⟨d + 1 + r3, r4 - 500000, true⟩]) := Lib.hid (lit_pt wr ⟨d + 1 + r3, r4 - 500000, true⟩)
            have HOd : Hid (OwnR ((wr.alloc (.cells #[.int .i64 (d + 1 + r3), .int .i64 (r4 - 500000), .bool true] 44)).drew) w.heap.size 44 3 v (([] : List UM.Pt).map ptV)) := Lib.hid (HO.out.alloc _)
            have HBd : Hid (Below w.heap.size w ((wr.alloc (.cells #[.int .i64 (d + 1 + r3), .int .i64 (r4 - 500000), .bool true] 44)).drew)) := Lib.hid (below_al HB.out _).drew
            go_wp2_with fail
            first
            | go_region_law (refine step_catR _ w.heap.size (([] : List UM.Pt).map ptV) [ptV ⟨d + 1 + r3, r4 - 500000, true⟩] _ _ _ 44 3 24 _ Try.underlying22 info_pt rfl (by decide) rfl rfl v (some ⟨wr.heap.size, 0, none⟩) 1 1 (by simp [Act.eval, Act.put]) (by simp [Act.eval, Act.put]) rfl HOd.out HRK.out (one_pt _) HZ1.out.1 HZ1.out.2 (by have := HSZ.out; simp; omega) ?_; intro v2 w2 o2 b2)
            | fail
            all_goals (
              have HO2 : Hid (OwnR w2 w.heap.size 44 3 v2 ((([] : List UM.Pt) ++ [(⟨d + 1 + r3, r4 - 500000, true⟩ : UM.Pt)]).map ptV)) := Lib.hid (by rw [List.map_append]; exact o2)
              have HB2 := Lib.hid (HBd.out.trans b2)
              clear o2 b2 HB HO HBd HOd HRK d0 d1 d2
              go_wp2_with fail
              go_roundw
              case rel => exact ⟨0 + 1, ([] : List UM.Pt) ++ [⟨d + 1 + r3, r4 - 500000, true⟩], d + 1 + r3, _, rfl, by omega, by omega, by go_num, rfl, by simp, by omega, HX, HO2, HB2⟩
              case measure => simp [intOf]; omega)
          · have hz : ((ls.length : Int) == 0) = false := beq_f (by omega)
            have hz2 : ¬ (ls.length : Int) = 0 := by omega
            have HX := Lib.hid (HF.out.snoc (p := ⟨d + 1 + r3, r4 - 500000, false⟩) (by show d < d + 1 + r3; omega) ⟨by show 0 ≤ d + 1 + r3; omega, by show d + 1 + r3 ≤ _; omega⟩ ⟨by show _ ≤ r4 - 500000; omega, by show r4 - 500000 ≤ _; omega⟩ (fun e => by rw [e] at h0; simp at h0))
            have HRK : Hid (Recs ((wr.alloc (.cells #[.int .i64 (d + 1 + r3), .int .i64 (r4 - 500000), .bool false] 44)).drew) (some ⟨wr.heap.size, 0, none⟩) 3 [ptV ⟨d + 1 + r3, r4 - 500000, false⟩]) := Lib.hid (lit_pt wr ⟨d + 1 + r3, r4 - 500000, false⟩)
            have HOd : Hid (OwnR ((wr.alloc (.cells #[.int .i64 (d + 1 + r3), .int .i64 (r4 - 500000), .bool false] 44)).drew) w.heap.size 44 3 v (ls.map ptV)) := Lib.hid (HO.out.alloc _)
            have HBd : Hid (Below w.heap.size w ((wr.alloc (.cells #[.int .i64 (d + 1 + r3), .int .i64 (r4 - 500000), .bool false] 44)).drew)) := Lib.hid (below_al HB.out _).drew
            go_wp2_with fail
            first
            | go_region_law (refine step_catR _ w.heap.size (ls.map ptV) [ptV ⟨d + 1 + r3, r4 - 500000, false⟩] _ _ _ 44 3 24 _ Try.underlying22 info_pt rfl (by decide) rfl rfl v (some ⟨wr.heap.size, 0, none⟩) 1 1 (by simp [Act.eval, Act.put]) (by simp [Act.eval, Act.put]) rfl HOd.out HRK.out (one_pt _) HZ1.out.1 HZ1.out.2 (by have := HSZ.out; simp; omega) ?_; intro v2 w2 o2 b2)
            | fail
            all_goals (
              have HO2 : Hid (OwnR w2 w.heap.size 44 3 v2 ((ls ++ [(⟨d + 1 + r3, r4 - 500000, false⟩ : UM.Pt)]).map ptV)) := Lib.hid (by rw [List.map_append]; exact o2)
              have HB2 := Lib.hid (HBd.out.trans b2)
              clear o2 b2 HB HO HBd HOd HRK d0 d1 d2
              go_wp2_with fail
              go_roundw
              case rel => exact ⟨ls.length + 1, ls ++ [⟨d + 1 + r3, r4 - 500000, false⟩], d + 1 + r3, _, rfl, by omega, by omega, by go_num, rfl, by simp, by omega, HX, HO2, HB2⟩
              case measure => simp [intOf]; omega)
        · have hz : True := trivial
          · have hy : True := trivial
            have HX := Lib.hid (HF.out.snoc (p := ⟨d + 1 + r3, r4 - 500000, true⟩) (by show d < d + 1 + r3; omega) ⟨by show 0 ≤ d + 1 + r3; omega, by show d + 1 + r3 ≤ _; omega⟩ ⟨by show _ ≤ r4 - 500000; omega, by show r4 - 500000 ≤ _; omega⟩ (fun _ => rfl))
            have HRK : Hid (Recs ((wr.alloc (.cells #[.int .i64 (d + 1 + r3), .int .i64 (r4 - 500000), .bool true] 44)).drew) (some ⟨wr.heap.size, 0, none⟩) 3 [ptV ⟨d + 1 + r3, r4 - 500000, true⟩]) := Lib.hid (lit_pt wr ⟨d + 1 + r3, r4 - 500000, true⟩)
            have HOd : Hid (OwnR ((wr.alloc (.cells #[.int .i64 (d + 1 + r3), .int .i64 (r4 - 500000), .bool true] 44)).drew) w.heap.size 44 3 v (ls.map ptV)) := Lib.hid (HO.out.alloc _)
            have HBd : Hid (Below w.heap.size w ((wr.alloc (.cells #[.int .i64 (d + 1 + r3), .int .i64 (r4 - 500000), .bool true] 44)).drew)) := Lib.hid (below_al HB.out _).drew
            go_wp2_with fail
            first
            | go_region_law (refine step_catR _ w.heap.size (ls.map ptV) [ptV ⟨d + 1 + r3, r4 - 500000, true⟩] _ _ _ 44 3 24 _ Try.underlying22 info_pt rfl (by decide) rfl rfl v (some ⟨wr.heap.size, 0, none⟩) 1 1 (by simp [Act.eval, Act.put]) (by simp [Act.eval, Act.put]) rfl HOd.out HRK.out (one_pt _) HZ1.out.1 HZ1.out.2 (by have := HSZ.out; simp; omega) ?_; intro v2 w2 o2 b2)
            | fail
            all_goals (
              have HO2 : Hid (OwnR w2 w.heap.size 44 3 v2 ((ls ++ [(⟨d + 1 + r3, r4 - 500000, true⟩ : UM.Pt)]).map ptV)) := Lib.hid (by rw [List.map_append]; exact o2)
              have HB2 := Lib.hid (HBd.out.trans b2)
              clear o2 b2 HB HO HBd HOd HRK d0 d1 d2
              go_wp2_with fail
              go_roundw
              case rel => exact ⟨ls.length + 1, ls ++ [⟨d + 1 + r3, r4 - 500000, true⟩], d + 1 + r3, _, rfl, by omega, by omega, by go_num, rfl, by simp, by omega, HX, HO2, HB2⟩
              case measure => simp [intOf]; omega)
      · have hc' : ¬ ((ls.length : Nat) : Int) < 60 := by omega
        have HLV := Lib.hid True.intro
        rcases Nat.eq_zero_or_pos ls.length with h0 | h0
        · exfalso; omega
        · have hln : ((ls.length : Int) == 0) = false := beq_f (by omega)
          have HGD := Lib.hid (HF.out.good ⟨h0, by omega⟩)
          have HME := Lib.hid (fun p hp => (HF.out.mem p hp).2)
          obtain ⟨gg, cc, rfl⟩ : ∃ gg cc, v = .slice (some ⟨gg, 0, none⟩) ls.length cc := by
            rcases HO.out.form with ⟨_, e⟩ | ⟨gg, cc, e, _⟩
            · have e2 : ls.length = 0 := by simpa using congrArg List.length e
              omega
            · rw [List.length_map] at e
              exact ⟨gg, cc, e⟩
          go_wp2_with fail
          go_ret3
          exact ⟨_, ls, 1 + r1, r2 - 500, rfl, HO.out, HGD.out, HME.out, ⟨by omega, by omega⟩, ⟨by omega, by omega⟩, HB.out⟩
    · have hc' : ¬ ((ls.length : Nat) : Int) < (l.length : Int) := by omega
      have HLV := Lib.hid True.intro
      rcases Nat.eq_zero_or_pos ls.length with h0 | h0
      · obtain rfl := List.eq_nil_of_length_eq_zero h0
        obtain ⟨va, vc, rfl, -, -⟩ := HO.out.recs
        have HX := Lib.hid (UM.Fits.nil.snoc (p := ⟨3, 7, true⟩) (by decide) (by decide) (by decide) (fun _ => rfl))
        have HRK : Hid (∀ W : World, Recs (W.alloc (.cells #[.int .i64 3, .int .i64 7, .bool true] 44)) (some ⟨W.heap.size, 0, none⟩) 3 [ptV ⟨3, 7, true⟩]) := Lib.hid (fun W => lit_pt W ⟨3, 7, true⟩)
        have hlv := HLV.out
        go_wp2_with (at_builtin; refine wpList_pushR wr (ptV ⟨3, 7, true⟩) (ptV_one _) w.heap.size [] _ _ _ 44 3 24 _ Try.underlying22 info_pt rfl (by decide) rfl rfl rfl _ (by rfl) (by rfl) HO.out (by decide) (by decide) HSZ.out ?_)
        rintro v3 w3 hO3 hb3 hs3 hg3
        have HO3 := Lib.hid hO3
        have HB3 := Lib.hid (HB.out.trans hb3)
        clear hO3 hb3 hs3 hg3
        go_wp2_with fail
        go_ret3
        exact ⟨_, [⟨3, 7, true⟩], 1 + r1, r2 - 500, rfl, HO3.out, HX.out.good (by decide), (fun p hp => (HX.out.mem p hp).2), ⟨by omega, by omega⟩, ⟨by omega, by omega⟩, HB3.out⟩
      · have hln : ((ls.length : Int) == 0) = false := beq_f (by omega)
        have HGD := Lib.hid (HF.out.good ⟨h0, by omega⟩)
        have HME := Lib.hid (fun p hp => (HF.out.mem p hp).2)
        obtain ⟨gg, cc, rfl⟩ : ∃ gg cc, v = .slice (some ⟨gg, 0, none⟩) ls.length cc := by
          rcases HO.out.form with ⟨_, e⟩ | ⟨gg, cc, e, _⟩
          · have e2 : ls.length = 0 := by simpa using congrArg List.length e
            omega
          · rw [List.length_map] at e
            exact ⟨gg, cc, e⟩
        go_wp2_with fail
        go_ret3
        exact ⟨_, ls, 1 + r1, r2 - 500, rfl, HO.out, HGD.out, HME.out, ⟨by omega, by omega⟩, ⟨by omega, by omega⟩, HB.out⟩
end Go.Proofs.Ytagmknahmkniaaa

namespace Go.Proofs.Ytagmknahmkniaaa.curveMoves
open Go.RowKit Go.Recs
set_option linter.unusedVariables false
set_option linter.unusedSimpArgs false
theorem pts_of {w : World} {B : Nat} {v : Value} {ls : List UM.Pt} (h : OwnR w B 44 3 v (ls.map ptV)) (hq : ∀ p ∈ ls, ptQ p) : ∃ A c, v = .slice A ls.length c ∧ Pts w A ls := by
  obtain ⟨A, c, e, hr, _⟩ := h.recs
  rw [List.length_map] at e
  exact ⟨A, c, e, hr, hq⟩
theorem good_q {ls : List UM.Pt} (g : UM.Good ls) (hp : ∀ p ∈ ls, -33554432 ≤ p.price ∧ p.price ≤ 33554432) : ∀ p ∈ ls, ptQ p := fun p h => by
  have := g.ord.mem p h
  have := hp p h
  exact ⟨⟨by omega, by omega⟩, ⟨by omega, by omega⟩⟩
theorem move_prices {ls : List UM.Pt} {b : Int} (hb : -1000000 ≤ b ∧ b ≤ 1000000) (hp : ∀ p ∈ ls, -500000 ≤ p.price ∧ p.price ≤ 500000) : ∀ p ∈ UM.moveL ls b (-16777216) 16777216, -33554432 ≤ p.price ∧ p.price ≤ 33554432 := by
  intro p h
  obtain ⟨q, hq, rfl⟩ := List.mem_map.1 h
  have := hp q hq
  by_cases hk : q.known = true
  · rw [UM.move_far hk (by omega) (by omega)]
    show -33554432 ≤ q.price + b ∧ q.price + b ≤ 33554432
    omega
  · have e : UM.moveP b (-16777216) 16777216 q = q := by unfold UM.moveP; rw [if_neg hk]
    rw [e]; omega
theorem move_e {ls : List UM.Pt} (g : UM.Good ls) {b : Int} (hb : -1000000 ≤ b ∧ b ≤ 1000000) : UM.moveE ls b (-16777216) 16777216 = 0 :=
  UM.move_e0 (UM.check_good.2 g) (UM.isP_true.2 (by omega)) (by decide)
/-- what the four calls of a fitted curve yield -/
structure Moved (ls mv : List UM.Pt) (t r bb a : Int) : Prop where
  a1 : UM.atE ls r t = 0 ∧ UM.atN ls r t = a
  s1 : UM.moveE ls bb (-16777216) 16777216 = 0 ∧ UM.moveR ls bb (-16777216) 16777216 = mv
  a2 : UM.atE mv r t = 0 ∧ UM.atN mv r t = a + bb
  s2 : UM.moveE mv (-bb) (-16777216) 16777216 = 0 ∧ UM.moveR mv (-bb) (-16777216) 16777216 = ls
  q1 : ∀ p ∈ ls, ptQ p
  q2 : ∀ p ∈ mv, ptQ p
  ba : -33554432 ≤ a ∧ a ≤ 33554432
  bb : -1000000 ≤ bb ∧ bb ≤ 1000000
theorem moved {ls : List UM.Pt} {t m r : Int} (g : UM.Good ls) (hp : ∀ p ∈ ls, -500000 ≤ p.price ∧ p.price ≤ 500000) (ht : 1 ≤ t ∧ t ≤ 1000) (hm : -500 ≤ m ∧ m ≤ 500) (hr : 0 ≤ r ∧ r ≤ 73048) :
    ∃ mv a, Moved ls mv t r (2 * t * m) a := by
  have hbb : -1000000 ≤ 2 * t * m ∧ 2 * t * m ≤ 1000000 := by
    have := UM.mul_in (a := m) (b := t) (M := 500) (N := 1000) hm ⟨by omega, by omega⟩ (by omega)
    have e : 2 * t * m = 2 * (m * t) := by rw [Int.mul_assoc, Int.mul_comm t]
    omega
  have hk : ∀ p ∈ ls, p.known = true → -500000 ≤ p.price ∧ p.price ≤ 500000 := fun p h _ => hp p h
  have g2 : UM.Good (UM.moveL ls (2 * t * m) (-16777216) 16777216) := UM.move_good g (by omega) (by omega) (by omega)
  have A1 := UM.at_ok g (tick := t) (day := r) ⟨ht.1, by omega⟩ hr
  have A2 := UM.at_ok g2 (tick := t) (day := r) ⟨ht.1, by omega⟩ hr
  have M := UM.move_price g (day := r) (tick := t) (m := m) hr ht hm hk
  have E1 := move_e g hbb
  have E2 := move_e g2 (b := -(2 * t * m)) ⟨by omega, by omega⟩
  have BK := UM.move_back (l := ls) hbb hk
  refine ⟨UM.moveL ls (2 * t * m) (-16777216) 16777216, UM.priceN ls r t, A1, ⟨E1, by unfold UM.moveR; rw [if_pos E1]⟩, ⟨A2.1, by rw [A2.2, M]⟩, ⟨E2, by unfold UM.moveR; rw [if_pos E2]; exact BK⟩, good_q g fun p h => by have := hp p h; omega, good_q g2 (move_prices hbb hp), UM.price_in g hr ⟨ht.1, by omega⟩, hbb⟩
set_option maxHeartbeats 8000000 in
set_option maxRecDepth 100000 in
theorem walk (A : Option Addr) (cap : Nat) (l : List UM.Pt) (day x y : Int) (w : World) (hI : Pts w A l ∧ l.length ≤ cap) (hd : -9223372036854775808 ≤ day ∧ day ≤ 9223372036854775807) (hxy : (-9223372036854775808 ≤ x ∧ x ≤ 9223372036854775807) ∧ -9223372036854775808 ≤ y ∧ y ≤ 9223372036854775807) :
    Calls Try.prog 6 #[.slice A l.length cap, .int .i64 day, .agg #[.int .i64 x, .int .i64 y]] w fun e w' => e = .returned (.bool true) ∧ Below w.heap.size w w' := by
  obtain ⟨hI, _⟩ := hI
  obtain ⟨r, er, hr0, hr1⟩ := UM.umod day 73048 (by omega)
  have CG := Lib.hid (fun ww => goes19_any ww)
  have HB0 := Lib.hid (below_al (Below.refl w.heap.size w) (.cells #[.int .i64 x, .int .i64 y] 45))
  have HI := Lib.hid (hI.below ((Below.refl _ w).alloc (Nat.le_refl _) (.cells #[.int .i64 x, .int .i64 y] 45)))
  have hA := CB.new w 45 #[.int .i64 x, .int .i64 y]
  have c0 := hA.cell 0
  have c1 := hA.cell 1
  simp only [List.getElem?_toArray, List.getElem?_cons_zero, List.getElem?_cons_succ] at c0 c1
  have CF := Lib.hid (fun ww h => ufit_any A l l.length cap rfl x y ww h)
  have CA := Lib.hid (fun A ls n c day tick ww hn h => uat_any A ls n c hn day tick ww h)
  have CS := Lib.hid (fun A ls n c b lo hi ww hn h => ushift_any A ls n c hn b lo hi ww h)
  have CE := Lib.hid (fun A B l n c m d ww hn hm h1 h2 => usame_any A B l n c m d hn hm ww h1 h2)
  clear hA hI
  go_enter Try.func6, Try.ntmps6
  go_wp2_with fail
  refine (CF.out _ HI.out).mono ?_
  rintro e w1 ⟨v, ls, t, m, rfl, hO, g, hp, ht, hm, b1⟩
  have HB1 := Lib.hid (HB0.out.trans (b1.mono HB0.out.size))
  obtain ⟨mv, a, M⟩ := moved (r := r) g hp ht hm ⟨hr0, by omega⟩
  obtain ⟨A1, k1, rfl, hI1⟩ := pts_of hO M.q1
  have HI1 := Lib.hid hI1
  obtain ⟨⟨m1, m2⟩, ⟨m3, m4⟩, ⟨m5, m6⟩, ⟨m7, m8⟩, q1, q2, ba, bb⟩ := M
  obtain ⟨z, hz⟩ : ∃ z, 2 * t * m = z := ⟨_, rfl⟩
  rw [hz] at m3 m4 m6 m7 m8 bb ⊢
  have V1 := Lib.hid (CA.out A1 ls ls.length k1 r t w1 rfl hI1)
  rw [m1, m2] at V1
  have V2 := Lib.hid (fun ww h => CS.out A1 ls ls.length k1 z (-16777216) 16777216 ww rfl h)
  rw [m3, m4] at V2
  have V3 := Lib.hid (fun A c ww h => CA.out A mv mv.length c r t ww rfl h)
  rw [m5, m6] at V3
  have V4 := Lib.hid (fun A c ww h => CS.out A mv mv.length c (-z) (-16777216) 16777216 ww rfl h)
  rw [m7, m8] at V4
  have Q1 := Lib.hid q1; have Q2 := Lib.hid q2
  clear b1 hO g hp hI1 m1 m2 m3 m4 m5 m6 m7 m8 q1 q2 hz CA CS CF c0 c1 HI HB0 hm
  go_wp2_with fail
  refine V1.out.mono ?_
  rintro e w2 ⟨rfl, b2⟩
  have HB2 := Lib.hid (HB1.out.trans (b2.mono HB1.out.size))
  have HI2 := Lib.hid (HI1.out.below b2)
  clear b2 V1 HB1 HI1
  go_wp2_with fail
  refine (V2.out _ HI2.out).mono ?_
  rintro e w3 ⟨v3, rfl, hO3, b3⟩
  have HB3 := Lib.hid (HB2.out.trans (b3.mono HB2.out.size))
  have HI3 := Lib.hid (HI2.out.below b3)
  obtain ⟨A3, k3, rfl, hM3⟩ := pts_of hO3 Q2.out
  have HM3 := Lib.hid hM3
  clear b3 V2 HB2 HI2 hO3 hM3
  go_wp2_with fail
  refine (V3.out _ _ _ HM3.out).mono ?_
  rintro e w4 ⟨rfl, b4⟩
  have HB4 := Lib.hid (HB3.out.trans (b4.mono HB3.out.size))
  have HI4 := Lib.hid (HI3.out.below b4)
  have HM4 := Lib.hid (HM3.out.below b4)
  clear b4 V3 HB3 HI3 HM3
  go_wp2_with fail
  refine (V4.out _ _ _ HM4.out).mono ?_
  rintro e w5 ⟨v5, rfl, hO5, b5⟩
  have HB5 := Lib.hid (HB4.out.trans (b5.mono HB4.out.size))
  have HI5 := Lib.hid (HI4.out.below b5)
  obtain ⟨A5, k5, rfl, hM5⟩ := pts_of hO5 Q1.out
  have HM5 := Lib.hid hM5
  clear b5 V4 HB4 HI4 hO5 hM5 HM4
  go_wp2_with fail
  refine (CE.out _ _ ls _ _ _ _ _ rfl rfl HM5.out HI5.out).mono ?_
  rintro e w6 ⟨rfl, nq1, rfl⟩
  have HB6 := Lib.hid (below_drewN HB5.out nq1)
  go_wp2_with fail
  refine (CG.out _).mono ?_
  rintro e w7 ⟨rfl, b7⟩
  have HB7 := Lib.hid (HB6.out.trans (b7.mono HB6.out.size))
  clear b7
  go_wp2_with fail
  go_ret
  exact ⟨rfl, HB7.out⟩
end Go.Proofs.Ytagmknahmkniaaa.curveMoves

/- What the reach says of a text that opens a record, over any program. -/
namespace Go.Recs
open Go.ChangeShapes Go.WideShapes Go.RowKit Go.Deep
set_option linter.unusedVariables false
theorem first_sized {H : Type} {enc : TypeId × Value → H} {P : Program} {W : World} {base : Nat} {spare : Nat → Bool} {held : Bool} {T : TypeId} {cs : Array Value} {d : DataW H} {p : List MemPlace} {fs : Array Field} {f : Field} {s : ByteArray}
    {ts : List TypeId} {ds : List (DataW H)} {j : Nat}
    (h : (DataW.weightsEach P ts ds).all (· ≤ reachBytes) = true) (ht : ts[j]? = some T) (hd : ds[j]? = some d)
    (hT : DataW.Trod enc P W base spare held T (.agg cs) d p) (hu : P.underlying T = some (.struct fs)) (hf : fs[0]? = some f) (ho : f.offset = 0) (hs : P.underlying f.type = some .string) (hc : P.cellsOf f.type = 1) (hcs : cs[0]? = some (.string s)) :
    s.size ≤ 140737488351232 := by
  obtain ⟨fuel, hx⟩ := hT
  obtain ⟨xs, n, _, hxd, _, hxl, hfl⟩ := DataW.trod_struct hu hx
  have h0 := hfl 0 f hf
  have hpos : 0 < xs.length := by
    rw [hxl]
    rcases Nat.eq_zero_or_pos fs.size with e | e
    · rw [Array.getElem?_eq_none (by omega)] at hf; cases hf
    · exact e
  rw [List.getElem?_eq_getElem hpos] at h0
  obtain ⟨t, ht0, hx0, _⟩ := DataW.trod_string hs h0
  rw [ho, hc, List.drop_zero] at ht0
  have ets : t = s := by
    have e1 : (Value.agg cs).cells.toList.take 1 = [Value.string t] := ht0
    have e2 : (Value.agg cs).cells.toList[0]? = some (Value.string s) := by simpa [Value.cells] using hcs
    cases hl : (Value.agg cs).cells.toList with
    | nil => rw [hl] at e2; cases e2
    | cons a r => rw [hl] at e1 e2; simp at e1 e2; rw [e1] at e2; injection e2
  subst ets
  injection hxd with hd1 _
  have hw : t.data.toList.length ∈ d.weights P T := by
    rw [hd1]
    simp only [DataW.weights, hu]
    have hm := DataW.weights_mem_each (P := P) (ts := fs.toList.map (·.type)) (ds := xs.map (·.1)) (j := 0) (t := f.type) (d := xs[0].1) (by rw [List.getElem?_map, Array.getElem?_toList, hf]; rfl) (by rw [List.getElem?_map, List.getElem?_eq_getElem hpos]; rfl) t.data.toList.length
    apply hm
    rw [hx0]
    simp [DataW.weights]
  have := List.all_eq_true.1 h _ (DataW.weights_mem_each ht hd _ hw)
  have e : t.data.toList.length = t.size := Array.length_toList
  rw [e] at this
  have hr : reachBytes = 140737488351232 := by decide
  rw [← hr]
  simpa using this
end Go.Recs
