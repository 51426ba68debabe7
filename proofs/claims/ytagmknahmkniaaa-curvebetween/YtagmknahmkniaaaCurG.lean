/- Contracts of layer 19: Fill, Shift. -/
import Derived.Test.YtagmknahmkniaaaCurF
import Derived.Test.YtagmknahmkniaaaCurC
import Derived.Test.YtagmknahmkniaaaPtPut
namespace UM
def fillR (l : List Pt) (tick : Int) : List Pt := if tickE l tick = 0 then fillL l tick else []
def moveR (l : List Pt) (b lo hi : Int) : List Pt := if moveE l b lo hi = 0 then moveL l b lo hi else []
theorem pAt_mem {l : List Pt} {k : Nat} (h : k < l.length) : pAt l k ∈ l := by rw [pAt_get h]; exact List.getElem_mem _
theorem fill_no {l : List Pt} {tick : Int} (h : tickE l tick ≠ 0) : fillR l tick = [] := by unfold fillR; rw [if_neg h]
theorem fill_yes {l : List Pt} {tick : Int} (h : tickE l tick = 0) : fillR l tick = l.map (fillP l tick) := by unfold fillR; rw [if_pos h]; rfl
theorem move_no {l : List Pt} {b lo hi : Int} (h : moveE l b lo hi ≠ 0) : moveR l b lo hi = [] := by unfold moveR; rw [if_neg h]
theorem move_yes {l : List Pt} {b lo hi : Int} (h : moveE l b lo hi = 0) : moveR l b lo hi = l.map (moveP b lo hi) := by unfold moveR; rw [if_pos h]; rfl
end UM
namespace Go.Proofs.Ytagmknahmkniaaa
open Go.RowKit Go.Recs
set_option linter.unusedVariables false
set_option linter.unusedSimpArgs false
set_option maxHeartbeats 4000000 in
set_option maxRecDepth 100000 in
theorem ufill_any (A : Option Addr) (l : List UM.Pt) (n cap : Nat) (hn : n = l.length) (tick : Int) (w : World) (hI : Pts w A l) :
    Calls Try.prog 15 #[.slice A n cap, .int .i64 tick] w fun e w' => ∃ v, e = .returned (.tuple #[v, .int .i64 (UM.tickE l tick)]) ∧ OwnR w' w.heap.size 44 3 v ((UM.fillR l tick).map ptV) ∧ Below w.heap.size w w' := by
  subst hn
  have hlen := hI.len
  have C1 := Lib.hid (uchecktick_any A l l.length cap rfl tick w hI)
  by_cases h : UM.tickE l tick = 0
  · obtain ⟨g, ht⟩ := UM.tick_zero h
    rw [h] at C1
    rw [UM.fill_yes h, h]
    have hl2 := g.len
    have C2 := Lib.hid (fun ww h => uclone_any A (l.map ptV) l.length cap ww (by simp) (pts_one l) h (by rw [List.length_map]; omega))
    have C3 := Lib.hid (fun k (hk : k < l.length) ww h => upriceof_any A l l.length cap rfl (UM.pAt l k).exp tick g ⟨(g.ord.mem _ (UM.pAt_mem hk)).1, (g.ord.mem _ (UM.pAt_mem hk)).2.1⟩ ht ww h)
    have HI := Lib.hid hI
    have KF := Lib.hid (fun p (hp : p.known = false) => (show UM.fillP l tick p = ⟨p.exp, UM.priceN l p.exp tick, true⟩ by unfold UM.fillP; rw [if_neg (by simp [hp])]))
    have KT := Lib.hid (fun p (hp : p.known = true) => (show UM.fillP l tick p = p by unfold UM.fillP; rw [if_pos hp]))
    have MS := Lib.hid (fun k (hk : k < l.length) => mix_succ (UM.fillP l tick) l hk)
    have ME := Lib.hid (fun k (hk : k < l.length) => mix_same (UM.fillP l tick) l hk)
    have ML' := Lib.hid (fun k (hk : k ≤ l.length) => mix_len (UM.fillP l tick) l hk)
    have MA := Lib.hid (fun k (hk : k < l.length) => mix_at (UM.fillP l tick) l hk)
    have MZ := Lib.hid (mix_zero (UM.fillP l tick) l)
    have MX := Lib.hid (mix_end (UM.fillP l tick) l)
    generalize UM.fillP l tick = f at *
    clear hI h g ht hl2
    go_enter Try.func15, Try.ntmps15
    go_wp2_with fail
    refine C1.out.mono ?_
    rintro e w1 ⟨rfl, b1⟩
    have HB1 := Lib.hid b1
    have HI1 := Lib.hid (HI.out.below b1)
    clear b1 C1
    go_wp2_with fail
    refine (C2.out _ HI1.out.1).mono ?_
    rintro e w2 ⟨v, rfl, hO, b2⟩
    have HB2 := Lib.hid (HB1.out.trans (b2.mono HB1.out.size))
    have HO := Lib.hid (hO.lower HB1.out.size)
    have HI2 := Lib.hid (HI1.out.below b2)
    clear b2 hO HB1 HI1 C2
    go_wp2_with fail
    go_loopw [4, 5, 7, 8, 9, 10, 21] (fun o _ _ _ _ _ i wr => ∃ k : Nat, k ≤ l.length ∧ v = o ∧ i = .int .i64 (k : Int) ∧ Hid (OwnR wr w.heap.size 44 3 v ((mixL f l k).map ptV)) ∧ Hid (Below w.heap.size w wr)) (fun _ _ _ _ _ _ i _ => l.length - (intOf i).toNat)
    case atStart => exact ⟨0, by omega, rfl, rfl, by rw [MZ.out]; exact HO, HB2⟩
    case round =>
      clear HO HB2
      obtain ⟨k, hk, rfl, rfl, HO, HB⟩ := hrel
      by_cases hlt : k < l.length
      · obtain ⟨b, off, t, rfl, hb, HV, q, d0, d1, d2⟩ := pts_get (HI.out.below HB.out) hlt
        have HSU := Lib.hid (MS.out k hlt)
        have HSA := Lib.hid (ME.out k hlt)
        have HLN := Lib.hid (ML'.out k hk)
        have HMA := Lib.hid (MA.out k hlt)
        rw [HV.out] at HSU HSA HMA
        have C4 := Lib.hid (C3.out k hlt)
        rw [HV.out] at C4
        have KF1 := Lib.hid (KF.out t)
        have KT1 := Lib.hid (KT.out t)
        obtain ⟨te, tp, tk⟩ := t
        have HBx := Lib.hid (below_al HB.out (.cells #[.int .i64 te, .int .i64 tp, .bool tk] 44))
        have HOx := Lib.hid (HO.out.alloc (.cells #[.int .i64 te, .int .i64 tp, .bool tk] 44))
        have HT := CB.new wr 44 #[.int .i64 te, .int .i64 tp, .bool tk]
        have f0 := HT.cell 0
        have f1 := HT.cell 1
        have f2 := HT.cell 2
        simp only [List.getElem?_toArray, List.getElem?_cons_zero, List.getElem?_cons_succ] at f0 f1 f2 d0 d1 d2
        clear q
        cases tk
        · obtain ⟨gg, cc, rfl, hgB⟩ : ∃ gg cc, v = .slice (some ⟨gg, 0, none⟩) l.length cc ∧ w.heap.size ≤ gg := by
            rcases HO.out.form with ⟨_, e⟩ | ⟨gg, cc, e, h1, _, _⟩
            · have e1 := HLN.out
              have e2 : (mixL f l k).length = 0 := by simpa using congrArg List.length e
              omega
            · rw [List.length_map, HLN.out] at e
              exact ⟨gg, cc, e, h1⟩
          have HKL := Lib.hid (show k < ((mixL f l k).map ptV).length by rw [List.length_map, HLN.out]; exact hlt)
          have HSU2 : Hid (mixL f l (k + 1) = (mixL f l k).set k ⟨te, UM.priceN l te tick, true⟩) := Lib.hid (by rw [HSU.out, KF1.out rfl])
          have HTX := Lib.hid HT
          clear HSU HSA KF1 KT1 HV HT
          generalize UM.priceN l te tick = z at *
          go_wp2_with fail
          refine (C4.out _ (HI.out.below HBx.out)).mono ?_
          rintro e w5 ⟨rfl, b5⟩
          have HB5 := Lib.hid (HBx.out.trans (b5.mono HBx.out.size))
          have HO5 := Lib.hid (HOx.out.below b5)
          have hT5 := HTX.out.below b5 HTX.out.lt
          have g0 := hT5.cell 0
          simp only [List.getElem?_toArray, List.getElem?_cons_zero] at g0
          have fO := HO5.out.frozen
          have o0 := HO5.out.cell HKL.out (show 0 < 3 by omega)
          have o1 := HO5.out.cell HKL.out (show 1 < 3 by omega)
          have o2 := HO5.out.cell HKL.out (show 2 < 3 by omega)
          rw [HMA.out] at o0 o1 o2
          simp only [ptV, List.getElem?_cons_zero, List.getElem?_cons_succ, Nat.add_zero] at o0 o1 o2
          clear hT5 b5 HBx HOx HTX f0 f1 f2 d0 d1 d2
          have HO6 := Lib.hid (HO5.out.put3 (i := k) HKL.out (.int .i64 te) (.int .i64 z) (.bool true))
          have HB6 := Lib.hid (((HB5.out.setCell (p := ⟨gg, k * 3, none⟩) hgB (.int .i64 te)).setCell (p := ⟨gg, k * 3 + 1, none⟩) hgB (.int .i64 z)).setCell (p := ⟨gg, k * 3 + 2, none⟩) hgB (.bool true))
          go_wp2_with fail
          go_roundw
          case rel => exact ⟨k + 1, by omega, rfl, by go_num, by rw [HSU2.out, map_put]; exact HO6, HB6⟩
          case measure => simp [intOf]; omega
        · have HSA2 : Hid (mixL f l (k + 1) = mixL f l k) := Lib.hid (HSA.out (KT1.out rfl))
          clear HSU HSA KF1 KT1 HV
          go_wp2_with fail
          go_roundw
          case rel => exact ⟨k + 1, by omega, rfl, by go_num, by rw [HSA2.out]; exact HOx, HBx⟩
          case measure => simp [intOf]; omega
      · obtain rfl : k = l.length := by omega
        rw [MX.out] at HO
        go_wp2_with fail
        go_ret2
        exact ⟨v, rfl, HO.out, HB.out⟩
  · have hd : (UM.tickE l tick != 0) = true := by simpa using h
    rw [UM.fill_no h]
    generalize UM.tickE l tick = y at *
    clear h hI
    go_enter Try.func15, Try.ntmps15
    go_wp2_with fail
    refine C1.out.mono ?_
    rintro e w1 ⟨rfl, b1⟩
    have HB := Lib.hid b1
    clear b1 C1
    go_wp2_with fail
    go_ret2
    exact ⟨_, rfl, OwnR.nil _ _ _ _, HB.out⟩
end Go.Proofs.Ytagmknahmkniaaa
