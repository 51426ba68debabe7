/- Contracts: fields, the program's. -/
import Derived.Test.YtegipokbbmnahaaWordsL
import Derived.Deep.LoopGhost
import Derived.WalkMore
namespace Go.Proofs.Ytegipokbbmnahaa
open Go.RowKit
set_option linter.unusedVariables false

set_option maxHeartbeats 2000000 in
theorem fields_any (s : ByteArray) (w : World) (hs : s.size ≤ 9223372036854775807) :
    Calls Try.prog 25 #[.string s] w fun e w' => ∃ v, e = .returned (.tuple #[v, .int .i64 (WM.fieldsE (L s))]) ∧ OS w' w.heap.size v (strs (WM.fieldsN (L s))) ∧ Below w.heap.size w w' := by
  by_cases hl : 512 < s.size
  · obtain ⟨e1, e2⟩ := WM.fields_long (l := L s) (by rw [L_len]; exact hl)
    rw [e1, e2]; clear e1 e2
    go_enter Try.func25, Try.ntmps25
    go_wp2
    go_step3
    go_wp2
    rw [Exit.noGoto_ret]
    go_ret2
    exact ⟨_, rfl, OS.nil _ _, Below.refl _ _⟩
  · by_cases h0 : s.size = 0
    · rw [L_nil h0, WM.fields_none.1, WM.fields_none.2]
      have he := isEmpty_true h0
      clear h0
      go_enter Try.func25, Try.ntmps25
      go_wp2
      go_step3
      go_wp2
      rw [Exit.noGoto_ret]
      go_ret2
      exact ⟨_, rfl, OS.nil _ _, Below.refl _ _⟩
    · have hp : 0 < s.size := by omega
      have he := isEmpty_false hp
      have HL1 : Hid ((L s).length ≤ 512) := Lib.hid (by rw [L_len]; omega)
      have HL2 : Hid (L s ≠ []) := Lib.hid (fun h => by have := L_len s; rw [h] at this; simp at this; omega)
      generalize hr : strs (WM.fieldsN (L s)) = res
      generalize hre : WM.fieldsE (L s) = re
      have HR := Lib.hid hr; have HE := Lib.hid hre
      clear hr hre h0
      go_enter Try.func25, Try.ntmps25
      go_wp2
      go_step3
      go_wp2
      go_step3
      go_wp2
      clear he
      go_loopg [2, 3, 4] (s.size + 1) (fun g v e fr wr => ∃ (f : Nat) (ps : List (List UInt8)), f + g ≤ s.size + 1 ∧ s.size + 1 ≤ f + g ∧ e = .int .i64 0 ∧ fr = .int .i64 f ∧ ps.length ≤ s.size + 1 ∧ Hid (RF (L s) f f ps) ∧ Hid (OS wr w.heap.size v (strs ps)) ∧ Hid (Below w.heap.size w wr))
      case atStart => exact ⟨0, [], by omega, by omega, rfl, rfl, by simp, Lib.hid (.inl (WM.FI.start _)), Lib.hid (OS.nil _ _), Lib.hid (Below.refl _ _)⟩
      case round =>
        obtain ⟨f, ps, hg1, hg2, rfl, rfl, hpl, HI, HO, HB⟩ := hrel
        by_cases hk1 : f ≤ s.size
        · have hI : WM.FI (L s) f f ps := by
            rcases HI.out with h | ⟨h, _⟩
            · exact h
            · rw [L_len] at h; omega
          have HF := Lib.hid hI
          clear HI hI
          generalize gk = go at *
          generalize wr = wo at *
          go_wp2
          go_loopg [3, 5] (s.size - f) (fun g e en wy => ∃ k : Nat, k + g ≤ s.size ∧ s.size ≤ k + g ∧ f ≤ k ∧ e = .int .i64 0 ∧ en = .int .i64 k ∧ Hid (WM.FI (L s) k f ps) ∧ wy = wo)
          case atStart => exact ⟨f, by omega, by omega, by omega, rfl, rfl, HF, rfl⟩
          case round =>
            clear HF
            obtain ⟨k, hi1, hi2, hfk, rfl, rfl, HF, rfl⟩ := hrel
            have cf0 : (0 : Int) ≤ (f : Int) := by omega
            have cf1 : (f : Int) ≤ (k : Int) := by omega
            have hpl2 : ps.length ≤ s.size := by have := HF.out.len; rw [L_len] at this; exact this
            by_cases hlt : k < s.size
            · have hlt2 : k < (L s).length := by rw [L_len]; exact hlt
              have HLT := Lib.hid hlt2
              clear hlt2
              have hd := blank_eq s[k]
              cases c32 : (s[k] == 32)
              · rw [c32] at hd
                have hd' : ((s[k].toNat : Int) != 32) = true := hd
                have C32 := Lib.hid c32
                clear hd c32
                cases hpn : WM.plain s[k]
                · have hB := HF.out.bad HLT.out (by rw [L_get s k hlt]; exact hpn) HL1.out HL2.out
                  have HBad : Hid (re = 5 ∧ res = []) := Lib.hid ⟨by rw [← HE.out, hB.1], by rw [← HR.out, hB.2]; rfl⟩
                  clear hB
                  rcases WM.plain_false.1 hpn with h | h
                  · clear hpn
                    go_wp2
                    try rw [Exit.noGoto_ret]
                    go_ret2
                    exact ⟨_, by rw [HBad.out.1]; rfl, by rw [HBad.out.2]; exact OS.nil _ _, HB.out⟩
                  · clear hpn
                    have h' : decide ((s[k].toNat : Int) < 32) = false := decide_eq_false (by omega)
                    go_wp2
                    try rw [Exit.noGoto_ret]
                    go_ret2
                    exact ⟨_, by rw [HBad.out.1]; rfl, by rw [HBad.out.2]; exact OS.nil _ _, HB.out⟩
                · obtain ⟨p1, p2⟩ := WM.plain_true.1 hpn
                  have HN := Lib.hid (HF.out.in_ HLT.out (by rw [L_get s k hlt]; exact hpn) (by rw [L_get s k hlt]; exact ne_of_beq_false C32.out))
                  clear hpn
                  go_wp2
                  go_roundg (s.size - (k + 1))
                  case measure => omega
                  case rel => exact ⟨k + 1, by omega, by omega, by omega, rfl, by go_num, HN, rfl⟩
              · rw [c32] at hd
                have hd' : ((s[k].toNat : Int) != 32) = false := hd
                have hb : (L s)[k]'HLT.out = 32 := by rw [L_get s k hlt]; exact eq_of_beq c32
                have HBL := Lib.hid hb
                clear hd c32 hb
                by_cases hkf : k = f
                · subst hkf
                  have hB := HF.out.empty_in HLT.out HBL.out HL1.out HL2.out
                  have HBad : Hid (re = 5 ∧ res = []) := Lib.hid ⟨by rw [← HE.out, hB.1], by rw [← HR.out, hB.2]; rfl⟩
                  clear hB
                  go_wp2
                  try rw [Exit.noGoto_ret]
                  go_ret2
                  exact ⟨_, by rw [HBad.out.1]; rfl, by rw [HBad.out.2]; exact OS.nil _ _, HB.out⟩
                · have ckf : ((k : Int) == (f : Int)) = false := beq_f (by omega)
                  have hN := HF.out.cut HLT.out HBL.out (by omega)
                  have hpl3 : (ps ++ [((L s).take k).drop f]).length ≤ s.size + 1 := by rw [List.length_append]; simp; omega
                  have HN : Hid (RF (L s) (k + 1) (k + 1) (ps ++ [((L s).take k).drop f])) := Lib.hid (.inl hN)
                  clear hN hkf
                  go_wp2_with (at_builtin; refine wpList_pushS _ (s.extract f k) w.heap.size (strs ps) _ _ rfl rfl _ rfl rfl HO.out ?c1 ?c2 ?_)
                  case c1 => rw [strs_len]; omega
                  case c2 => exact HB.out.size
                  intro v1 w1 o1 b1 _
                  rw [← strs_snoc] at o1
                  have HO1 := Lib.hid o1
                  have HB1 := Lib.hid (HB.out.trans b1)
                  clear o1 b1 HO HB
                  go_wp2
                  go_roundg (s.size + 1 - (k + 1))
                  case measure => omega
                  case rel => exact ⟨k + 1, _, by omega, by omega, rfl, by go_num, hpl3, HN, HO1, HB1⟩
            · obtain rfl : k = s.size := by omega
              have hF := HF.out
              rw [← L_len s] at hF
              have HFL := Lib.hid hF
              clear hF HF
              by_cases hkf : s.size = f
              · subst hkf
                have hF := HFL.out
                have hB := WM.FI.empty_end (l := L s) (ps := ps) (by rw [L_len] at hF ⊢; exact hF) HL1.out HL2.out
                have HBad : Hid (re = 5 ∧ res = []) := Lib.hid ⟨by rw [← HE.out, hB.1], by rw [← HR.out, hB.2]; rfl⟩
                clear hB hF
                go_wp2
                try rw [Exit.noGoto_ret]
                go_ret2
                exact ⟨_, by rw [HBad.out.1]; rfl, by rw [HBad.out.2]; exact OS.nil _ _, HB.out⟩
              · have ckf : ((s.size : Int) == (f : Int)) = false := beq_f (by omega)
                have hD := HFL.out.done (by rw [L_len]; omega) HL1.out HL2.out
                rw [L_len] at hD
                have HN : Hid (RF (L s) (s.size + 1) (s.size + 1) (ps ++ [((L s).take s.size).drop f])) := Lib.hid (.inr ⟨by rw [L_len], hD.2.symm, hD.1⟩)
                have hpl3 : (ps ++ [((L s).take s.size).drop f]).length ≤ s.size + 1 := by rw [List.length_append]; simp; omega
                clear hD hkf
                go_wp2_with (at_builtin; refine wpList_pushS _ (s.extract f s.size) w.heap.size (strs ps) _ _ rfl rfl _ rfl rfl HO.out ?c1 ?c2 ?_)
                case c1 => rw [strs_len]; omega
                case c2 => exact HB.out.size
                intro v1 w1 o1 b1 _
                rw [← strs_snoc] at o1
                have HO1 := Lib.hid o1
                have HB1 := Lib.hid (HB.out.trans b1)
                clear o1 b1 HO HB
                go_wp2
                go_roundg 0
                case measure => omega
                case rel => exact ⟨s.size + 1, _, by omega, by omega, rfl, by go_num, hpl3, HN, HO1, HB1⟩
        · have hI : f = (L s).length + 1 ∧ ps = WM.fieldsN (L s) ∧ WM.fieldsE (L s) = 0 := by
            rcases HI.out with h | h
            · have := h.1; rw [L_len] at this; omega
            · exact h
          have HD : Hid (re = 0 ∧ strs ps = res) := Lib.hid ⟨by rw [← HE.out, hI.2.2], by rw [← HR.out, hI.2.1]⟩
          have ck : decide (f ≤ s.size) = false := decide_eq_false hk1
          clear hI
          go_wp2
          try rw [Exit.noGoto_ret]
          go_ret2
          exact ⟨_, by rw [HD.out.1]; rfl, by rw [← HD.out.2]; exact HO.out, HB.out⟩
end Go.Proofs.Ytegipokbbmnahaa
