/- Put together: MrkJ, MrkK, ProdE, VtE, VarB, VtF. -/
import Derived.Test.YtagmknahmkniaaaBun8
import Derived.Test.YtagmknahmkniaaaBun3
import Derived.Test.YtagmknahmkniaaaBun7
import Derived.Deep.RegionHeld3
import Derived.Test.YtagmknahmkniaaaBun5
import Derived.Test.YtagmknahmkniaaaBun6
/- Contracts of layer 18: CheckAll. -/
namespace Go.Proofs.Ytagmknahmkniaaa
open Go.RowKit Go.Recs
set_option linter.unusedVariables false
set_option linter.unusedSimpArgs false
theorem mAt_bad {l : List MR.Mk} {k : Nat} (hk : 0 < k) (h : ¬ EM.cmp (MR.mAt l (k - 1)).ser (MR.mAt l k).ser < 0) : MR.eAt l k = 19 := by unfold MR.eAt; rw [if_pos ⟨hk, h⟩]
theorem mAt_ok {l : List MR.Mk} {k : Nat} (h0 : 0 < k → EM.cmp (MR.mAt l (k - 1)).ser (MR.mAt l k).ser < 0) : MR.eAt l k = if MK.isP (MR.mAt l k).price = true then 0 else 17 := by
  unfold MR.eAt
  rw [if_neg (fun h => h.2 (h0 h.1))]
abbrev mkC (x : MR.Mk) : Array Value := #[.string x.ser.prod, .int .i64 x.ser.kind, .int .i64 x.ser.expiry, .int .i64 x.ser.strike, .int .i64 x.price]
abbrev mkA (x : MR.Mk) : Value := .agg #[.string x.ser.prod, .int .i64 x.ser.kind, .int .i64 x.ser.expiry, .int .i64 x.ser.strike, .int .i64 x.price]
set_option maxHeartbeats 4000000 in
set_option maxRecDepth 100000 in
theorem mcheckall_any (A : Option Addr) (l : List MR.Mk) (n cap : Nat) (hn : n = l.length) (w : World) (hI : Marks w A l) :
    Calls Try.prog 60 #[.slice A n cap] w fun e w' => e = .returned (.int .i64 (MR.checkE l)) ∧ Below w.heap.size w w' := by
  subst hn
  have hlen := hI.len
  have HI := Lib.hid hI
  have KL := Lib.hid (@MR.check_long l); have KO := Lib.hid (@MR.check_ok l); have KA := Lib.hid (fun h k => @MR.check_at l h k)
  have C1 := Lib.hid (fun a b ww => ecmp_any a b ww); have C2 := Lib.hid (fun a ww => isprice18_any a ww)
  generalize MR.checkE l = r at *
  clear hI
  by_cases hl : 128 < l.length
  · have HR := Lib.hid (KL.out hl)
    have hl' : (128 : Int) < (l.length : Int) := by omega
    clear hl
    go_enter Try.func60, Try.ntmps60
    go_wp2_with fail
    go_ret
    exact ⟨by rw [HR.out] <;> rfl, Below.refl _ _⟩
  have HL := Lib.hid hl
  have hl' : ¬ (128 : Int) < (l.length : Int) := by omega
  have hl2 : l.length ≤ 128 := by omega
  clear hl
  go_enter Try.func60, Try.ntmps60
  go_wp2_with fail
  go_loopw [3, 4, 10] (fun _ _ i wr => ∃ k : Nat, k ≤ l.length ∧ i = .int .i64 (k : Int) ∧ Hid (∀ j, j < k → MR.eAt l j = 0) ∧ Hid (Below w.heap.size w wr)) (fun _ _ i _ => l.length - (intOf i).toNat)
  case atStart => exact ⟨0, by omega, rfl, Lib.hid (fun j h => by omega), Lib.hid (Below.refl _ _)⟩
  case round =>
    obtain ⟨k, hk, rfl, HE, HB⟩ := hrel
    by_cases hlt : k < l.length
    · obtain ⟨b, off, x, rfl, hb, HV, q, d0, d1, d2, d3, d4⟩ := marks_get (HI.out.below HB.out) hlt
      have HBx := Lib.hid (below_al HB.out (.cells (mkC x) 84))
      have HX := Lib.hid (CB.new wr 84 (mkC x))
      have C3 := Lib.hid (fun ww => C2.out x.price ww)
      clear q
      rcases Nat.eq_zero_or_pos k with h0 | h0
      · have hk1 : decide (0 < k) = false := by simp [h0]
        have hk2 : ¬ (0 : Int) < (k : Int) := by omega
        have HEL : Hid (MR.eAt l k = if MK.isP x.price = true then 0 else 17) := Lib.hid (by rw [mAt_ok (fun h => by omega), HV.out])
        have hk3 : ((k : Int) == 0) = true := beq_t (by omega)
        have HK0 := Lib.hid h0
        clear h0
        generalize MK.isP x.price = bl at *
        cases bl
        · have HR := Lib.hid (KA.out HL.out k hlt HE.out (by rw [HEL.out]; simp))
          have HR2 : Hid (r = 17) := Lib.hid (by rw [HR.out, HEL.out]; rfl)
          go_wp2_with fail
          go_quiet (fail)
          go_wp2_with fail
          refine (C3.out _).mono ?_
          rintro e w2 ⟨rfl, rfl⟩
          go_wp2_with fail
          go_ret
          exact ⟨by rw [HR2.out] <;> rfl, by first | exact below_drewN HBx.out _ | exact HBx.out⟩
        · have HE2 : Hid (∀ j, j < k + 1 → MR.eAt l j = 0) := Lib.hid (fun j hj => by
            rcases Nat.lt_or_ge j k with g | g
            · exact HE.out j g
            · obtain rfl : j = k := by omega
              rw [HEL.out]; rfl)
          go_wp2_with fail
          go_quiet (fail)
          go_wp2_with fail
          refine (C3.out _).mono ?_
          rintro e w2 ⟨rfl, rfl⟩
          go_wp2_with fail
          go_roundw
          case rel => exact ⟨k + 1, by omega, by go_num, HE2, Lib.hid (by first | exact below_drewN HBx.out _ | exact HBx.out)⟩
          case measure => simp [intOf]; omega
      · obtain ⟨j, rfl⟩ : ∃ j, k = j + 1 := ⟨k - 1, by omega⟩
        obtain ⟨b', off', y, he, hb', HVy, qy, g0, g1, g2, g3, g4⟩ := marks_get (HI.out.below HB.out) (k := j) (by omega)
        injection he with he
        injection he with e1 e2
        subst e1 e2
        have HBb : Hid (b < wr.heap.size) := Lib.hid hb
        have C4 := Lib.hid (fun ww => C1.out y.ser x.ser ww)
        have HSF : Hid (∀ ww, Below (wr.alloc (.cells (mkC x) 84)).heap.size (wr.alloc (.cells (mkC x) 84)) ww → ((ww.cell? ⟨b, off + j * 5, none⟩ = some (.string y.ser.prod) ∧ ww.cell? ⟨b, off + j * 5 + 1, none⟩ = some (.int .i64 y.ser.kind) ∧ ww.cell? ⟨b, off + j * 5 + 2, none⟩ = some (.int .i64 y.ser.expiry) ∧ ww.cell? ⟨b, off + j * 5 + 3, none⟩ = some (.int .i64 y.ser.strike)) ∧
            (ww.cell? ⟨wr.heap.size, 0, none⟩ = some (.string x.ser.prod) ∧ ww.cell? ⟨wr.heap.size, 1, none⟩ = some (.int .i64 x.ser.kind) ∧ ww.cell? ⟨wr.heap.size, 2, none⟩ = some (.int .i64 x.ser.expiry) ∧ ww.cell? ⟨wr.heap.size, 3, none⟩ = some (.int .i64 x.ser.strike)) ∧ (ww.cell? ⟨wr.heap.size, 4, none⟩ = some (.int .i64 x.price)))) := Lib.hid (fun ww h => by
          have hc := fun i => (HX.out.below h HX.out.lt).cell i
          have hd := fun o => (h.cell (p := ⟨b, o, none⟩) (by have := HBb.out; simp; omega)).trans ((below_al (Below.refl wr.heap.size wr) (.cells (mkC x) 84)).cell (p := ⟨b, o, none⟩) HBb.out)
          exact ⟨⟨(hd _).trans g0, (hd _).trans g1, (hd _).trans g2, (hd _).trans g3⟩, ⟨hc 0, hc 1, hc 2, hc 3⟩, hc 4⟩)
        have hwj : IntKind.i64.wrap ((j : Int) + 1 - 1) = (j : Int) := by rw [show (j : Int) + 1 - 1 = (j : Int) by omega]; exact IntWalk.i64_in _ (by omega)
        have hwj2 : (0 : Int) < (j : Int) + 1 := by omega
        have hjl : j < l.length := by omega
        have hwj3 : IntKind.i64.wrap (j : Int) = (j : Int) := IntWalk.i64_in _ (by omega)
        have hj0 : (0 : Int) ≤ (j : Int) := by omega
        have hj1 : (j : Int) < (l.length : Int) := by omega
        have hj2 : (j : Int) ≤ (l.length : Int) := by omega
        clear qy h0 hb'
        by_cases hc : EM.cmp y.ser x.ser < 0
        · have HEL : Hid (MR.eAt l (j + 1) = if MK.isP x.price = true then 0 else 17) := Lib.hid (by rw [mAt_ok (fun _ => by rw [show j + 1 - 1 = j from rfl, HVy.out, HV.out]; exact hc), HV.out])
          have hcm : ¬ 0 ≤ EM.cmp y.ser x.ser := by omega
          generalize MK.isP x.price = bl at *
          generalize EM.cmp y.ser x.ser = cm at *
          go_wp2_with fail
          generalize wr.alloc (.cells #[.string x.ser.prod, .int .i64 x.ser.kind, .int .i64 x.ser.expiry, .int .i64 x.ser.strike, .int .i64 x.price] 84) = w2 at *
          have HBw : Hid (Below w2.heap.size w2 w2.drew) := Lib.hid (Below.refl _ _).drew
          go_region_held3 (fun ww => ((ww.cell? ⟨b, off + j * 5, none⟩ = some (.string y.ser.prod) ∧ ww.cell? ⟨b, off + j * 5 + 1, none⟩ = some (.int .i64 y.ser.kind) ∧ ww.cell? ⟨b, off + j * 5 + 2, none⟩ = some (.int .i64 y.ser.expiry) ∧ ww.cell? ⟨b, off + j * 5 + 3, none⟩ = some (.int .i64 y.ser.strike)) ∧
            (ww.cell? ⟨wr.heap.size, 0, none⟩ = some (.string x.ser.prod) ∧ ww.cell? ⟨wr.heap.size, 1, none⟩ = some (.int .i64 x.ser.kind) ∧ ww.cell? ⟨wr.heap.size, 2, none⟩ = some (.int .i64 x.ser.expiry) ∧ ww.cell? ⟨wr.heap.size, 3, none⟩ = some (.int .i64 x.ser.strike)) ∧ (ww.cell? ⟨wr.heap.size, 4, none⟩ = some (.int .i64 x.price))))
            (with_reducible exact HSF.out _ HBw.out)
            ((go_at_call 72; refine (C4.out _).mono ?_; rintro e w5 ⟨rfl, b5⟩; replace HBw := Lib.hid (HBw.out.trans (b5.below.mono HBw.out.size)); clear b5))
          all_goals (
            have HBF := Lib.hid (HBx.out.trans (HBw.out.mono HBx.out.size))
            have hcl := HSF.out _ HBw.out
            obtain ⟨_, _, x4⟩ := hcl
            clear HSF HBw d0 d1 d2 d3 d4 g0 g1 g2 g3 g4
            cases bl
            · have HR := Lib.hid (KA.out HL.out (j + 1) hlt HE.out (by rw [HEL.out]; simp))
              have HR2 : Hid (r = 17) := Lib.hid (by rw [HR.out, HEL.out]; rfl)
              go_wp2_with fail
              refine (C3.out _).mono ?_
              rintro e w6 ⟨rfl, rfl⟩
              go_wp2_with fail
              go_ret
              exact ⟨by rw [HR2.out] <;> rfl, HBF.out⟩
            · have HE2 : Hid (∀ i, i < j + 1 + 1 → MR.eAt l i = 0) := Lib.hid (fun i hi => by
                rcases Nat.lt_or_ge i (j + 1) with g | g
                · exact HE.out i g
                · obtain rfl : i = j + 1 := by omega
                  rw [HEL.out]; rfl)
              go_wp2_with fail
              refine (C3.out _).mono ?_
              rintro e w6 ⟨rfl, rfl⟩
              go_wp2_with fail
              go_roundw
              case rel => exact ⟨j + 1 + 1, by omega, by go_num, HE2, HBF⟩
              case measure => simp [intOf]; omega)
        · have HR := Lib.hid (KA.out HL.out (j + 1) hlt HE.out (by rw [mAt_bad (by omega) (by rw [show j + 1 - 1 = j from rfl, HVy.out, HV.out]; exact hc)]; simp))
          have HR2 : Hid (r = 19) := Lib.hid (by rw [HR.out, mAt_bad (by omega) (by rw [show j + 1 - 1 = j from rfl, HVy.out, HV.out]; exact hc)])
          have hcm : 0 ≤ EM.cmp y.ser x.ser := by omega
          generalize EM.cmp y.ser x.ser = cm at *
          go_wp2_with fail
          generalize wr.alloc (.cells #[.string x.ser.prod, .int .i64 x.ser.kind, .int .i64 x.ser.expiry, .int .i64 x.ser.strike, .int .i64 x.price] 84) = w2 at *
          have HBw : Hid (Below w2.heap.size w2 w2.drew) := Lib.hid (Below.refl _ _).drew
          go_region_held3 (fun ww => ((ww.cell? ⟨b, off + j * 5, none⟩ = some (.string y.ser.prod) ∧ ww.cell? ⟨b, off + j * 5 + 1, none⟩ = some (.int .i64 y.ser.kind) ∧ ww.cell? ⟨b, off + j * 5 + 2, none⟩ = some (.int .i64 y.ser.expiry) ∧ ww.cell? ⟨b, off + j * 5 + 3, none⟩ = some (.int .i64 y.ser.strike)) ∧
            (ww.cell? ⟨wr.heap.size, 0, none⟩ = some (.string x.ser.prod) ∧ ww.cell? ⟨wr.heap.size, 1, none⟩ = some (.int .i64 x.ser.kind) ∧ ww.cell? ⟨wr.heap.size, 2, none⟩ = some (.int .i64 x.ser.expiry) ∧ ww.cell? ⟨wr.heap.size, 3, none⟩ = some (.int .i64 x.ser.strike)) ∧ (ww.cell? ⟨wr.heap.size, 4, none⟩ = some (.int .i64 x.price))))
            (with_reducible exact HSF.out _ HBw.out)
            ((go_at_call 72; refine (C4.out _).mono ?_; rintro e w5 ⟨rfl, b5⟩; replace HBw := Lib.hid (HBw.out.trans (b5.below.mono HBw.out.size)); clear b5))
          all_goals (
            have HBF := Lib.hid (HBx.out.trans (HBw.out.mono HBx.out.size))
            clear HSF HBw d0 d1 d2 d3 d4 g0 g1 g2 g3 g4
            go_wp2_with fail
            go_ret
            exact ⟨by rw [HR2.out] <;> rfl, HBF.out⟩)
    · obtain rfl : k = l.length := by omega
      have HR := Lib.hid (KO.out HL.out HE.out)
      go_wp2_with fail
      go_ret
      exact ⟨by rw [HR.out] <;> rfl, HB.out⟩
end Go.Proofs.Ytagmknahmkniaaa

/- Contracts of layer 18: Find; the order of marks by series. -/
namespace Go.Proofs.Ytagmknahmkniaaa
open Go.RowKit Go.Recs
set_option linter.unusedVariables false
set_option linter.unusedSimpArgs false
abbrev sC (s : EM.Ser) : Array Value := #[.string s.prod, .int .i64 s.kind, .int .i64 s.expiry, .int .i64 s.strike]
def fN (l : List MR.Mk) : Option Nat → Int
  | some k => (MR.mAt l k).price
  | none => 0
theorem find_fN (l : List MR.Mk) (s : EM.Ser) : MR.findN l s = fN l (MR.fidx l s) := by unfold MR.findN; cases MR.fidx l s <;> rfl
set_option maxHeartbeats 4000000 in
theorem mfind_any (A : Option Addr) (l : List MR.Mk) (n cap : Nat) (hn : n = l.length) (s : EM.Ser) (w : World) (hI : Marks w A l) :
    Calls Try.prog 62 #[.slice A n cap, serA s] w fun e w' => e = .returned (.tuple #[.int .i64 (MR.findN l s), .bool (MR.findB l s)]) ∧ Below w.heap.size w w' := by
  subst hn
  have hlen := hI.len
  rw [find_fN, show MR.findB l s = (MR.fidx l s).isSome from rfl]
  have KY := Lib.hid (fun k => @MR.fidx_some l s k); have KN := Lib.hid (@MR.fidx_none l s)
  have HB0 := Lib.hid ((Below.refl w.heap.size w).alloc (Nat.le_refl _) (.cells (sC s) 56))
  have HS := Lib.hid (CB.new w 56 (sC s))
  have HI := Lib.hid (hI.below HB0.out)
  generalize MR.fidx l s = o at *
  generalize hpr : fN l o = pr
  generalize hbb : o.isSome = bb
  have HPR := Lib.hid hpr; have HBB1 := Lib.hid hbb
  clear hI hpr hbb
  have hgl : w.heap.size < (w.alloc (.cells (sC s) 56)).heap.size := HS.out.lt
  go_enter Try.func62, Try.ntmps62
  go_wp2_with fail
  generalize w.alloc (.cells #[.string s.prod, .int .i64 s.kind, .int .i64 s.expiry, .int .i64 s.strike] 56) = w1 at *
  go_loopw [7, 10] (fun _ i wr => ∃ k : Nat, k ≤ l.length ∧ i = .int .i64 (k : Int) ∧ Hid (∀ j, j < k → NM.seqB (MR.mAt l j).ser s = false) ∧ Hid (Below w1.heap.size w1 wr) ∧ Hid (Below w.heap.size w wr)) (fun _ i _ => l.length - (intOf i).toNat)
  case atStart => exact ⟨0, by omega, rfl, Lib.hid (fun j h => by omega), Lib.hid (Below.refl _ _), HB0⟩
  case round =>
    obtain ⟨k, hk, rfl, HE, HB, HBB⟩ := hrel
    by_cases hlt : k < l.length
    · obtain ⟨b, off, x, rfl, hb, HV, q, d0, d1, d2, d3, d4⟩ := marks_get (HI.out.below HB.out) hlt
      have HV2 : Hid (NM.seqB (MR.mAt l k).ser s = NM.seqB x.ser s) := Lib.hid (by rw [HV.out])
      have HBx := Lib.hid (below_al HB.out (.cells (mkC x) 84))
      have HBy := Lib.hid (below_al HBB.out (.cells (mkC x) 84))
      have HX := Lib.hid (CB.new wr 84 (mkC x))
      have HG2 := Lib.hid (HS.out.below HBx.out hgl)
      have c0 := HX.out.cell 0; have c1 := HX.out.cell 1; have c2 := HX.out.cell 2; have c3 := HX.out.cell 3; have c4 := HX.out.cell 4
      have s0 := HG2.out.cell 0; have s1 := HG2.out.cell 1; have s2 := HG2.out.cell 2; have s3 := HG2.out.cell 3
      simp only [List.getElem?_toArray, List.getElem?_cons_zero, List.getElem?_cons_succ] at c0 c1 c2 c3 c4 s0 s1 s2 s3
      have E1 : ∀ ww, (Op.equalIn 10000 56 (.agg #[.string x.ser.prod, .int .i64 x.ser.kind, .int .i64 x.ser.expiry, .int .i64 x.ser.strike]) (.agg #[.string s.prod, .int .i64 s.kind, .int .i64 s.expiry, .int .i64 s.strike])).run Try.prog ww = .ok (NM.seqB x.ser s) ww := fun ww => ser_in x.ser s ww
      have E2 := ser_guard
      clear q
      cases hp : NM.seqB x.ser s
      · rw [hp] at E1 HV2
        have HE2 : Hid (∀ j, j < k + 1 → NM.seqB (MR.mAt l j).ser s = false) := Lib.hid (fun j hj => by
          rcases Nat.lt_or_ge j k with gg | gg
          · exact HE.out j gg
          · obtain rfl : j = k := by omega
            exact HV2.out)
        clear hp
        go_wp2_with fail
        go_roundw
        case rel => exact ⟨k + 1, by omega, by go_num, HE2, HBx, HBy⟩
        case measure => simp [intOf]; omega
      · rw [hp] at E1
        have HX := Lib.hid (KY.out k hlt HE.out (HV2.out.trans hp))
        have HXP : Hid (pr = x.price) := Lib.hid (by rw [← HPR.out, HX.out]; show (MR.mAt l k).price = _; rw [HV.out])
        have HXS : Hid (bb = true) := Lib.hid (by rw [← HBB1.out, HX.out]; rfl)
        clear hp HX
        go_wp2_with fail
        go_ret2
        exact ⟨by rw [HXP.out, HXS.out] <;> rfl, HBy.out⟩
    · obtain rfl : k = l.length := by omega
      have HX := Lib.hid (KN.out HE.out)
      have HXP : Hid (pr = 0) := Lib.hid (by rw [← HPR.out, HX.out]; rfl)
      have HXS : Hid (bb = false) := Lib.hid (by rw [← HBB1.out, HX.out]; rfl)
      clear HX
      go_wp2_with fail
      go_ret2
      exact ⟨by rw [HXP.out, HXS.out] <;> rfl, HBB.out⟩
end Go.Proofs.Ytagmknahmkniaaa

/- Contracts of layer 9: CheckAll. -/
namespace Go.Proofs.Ytagmknahmkniaaa
open Go.RowKit Go.Recs
set_option linter.unusedVariables false

def prevP (l : List QM.Prod) (k : Nat) : QM.Prod := if k = 0 then QM.zero else QM.pAt l (k - 1)
theorem prev_zero (l : List QM.Prod) : prevP l 0 = QM.zero := rfl
theorem prev_succ (l : List QM.Prod) (k : Nat) : prevP l (k + 1) = QM.pAt l k := by unfold prevP; simp
theorem zero_check : QM.checkE QM.zero = 10 := by decide
theorem prev_ne {l : List QM.Prod} {k : Nat} (h : QM.uptoE l k = 0) (h0 : 0 < k) : peq (prevP l k) QM.zero = false := by
  obtain ⟨j, rfl⟩ : ∃ j, k = j + 1 := ⟨k - 1, by omega⟩
  rw [prev_succ, peq_false]
  intro e
  have h1 := QM.upto_back h j (by omega)
  unfold QM.oneE at h1
  rw [e, zero_check] at h1
  simp at h1
theorem one_check {l : List QM.Prod} {k : Nat} (h : QM.checkE (QM.pAt l k) ≠ 0) : QM.oneE l k = QM.checkE (QM.pAt l k) := by unfold QM.oneE; rw [if_pos h]
theorem one_there {l : List QM.Prod} {k : Nat} (h : QM.checkE (QM.pAt l k) = 0) (h0 : 0 < k) (h2 : (Op.bytesLess (QM.pAt l k).name.toList (prevP l k).name.toList || ((QM.pAt l k).name.toList == (prevP l k).name.toList)) = true) : QM.oneE l k = 12 := by
  unfold QM.oneE
  rw [if_neg (by simp [h]), if_pos]
  refine ⟨h0, ?_⟩
  unfold prevP at h2
  rw [if_neg (by omega)] at h2
  unfold QM.lessB
  rw [Bool.or_eq_true] at h2
  rcases h2 with h2 | h2
  · exact OM.bl_asymm h2
  · rw [eq_of_beq h2]; exact OM.bl_irrefl _
theorem one_ok {l : List QM.Prod} {k : Nat} (h : QM.checkE (QM.pAt l k) = 0) (h2 : k = 0 ∨ (Op.bytesLess (QM.pAt l k).name.toList (prevP l k).name.toList || ((QM.pAt l k).name.toList == (prevP l k).name.toList)) = false) : QM.oneE l k = 0 := by
  unfold QM.oneE
  rw [if_neg (by simp [h]), if_neg]
  rintro ⟨h0, h3⟩
  rcases h2 with rfl | h2
  · omega
  · unfold prevP at h2
    rw [if_neg (by omega), Bool.or_eq_false_iff] at h2
    unfold QM.lessB at h3
    rcases OM.bl_tri (QM.pAt l (k - 1)).name.toList (QM.pAt l k).name.toList with g | g | g
    · rw [g] at h3; cases h3
    · rw [g] at h2; simp at h2
    · rw [g] at h2; simp at h2

set_option maxRecDepth 100000 in
set_option maxHeartbeats 4000000 in
theorem qall_any (A : Option Addr) (l : List QM.Prod) (cap : Nat) (w : World) (hI : Prods w A l) :
    Calls Try.prog 58 #[.slice A l.length cap] w fun e w' => e = .returned (.int .i64 (QM.allE l)) ∧ Below w.heap.size w w' := by
  have hlen : l.length ≤ 9223372036854775807 := by have := hI.1.len; rw [List.length_map] at this; exact this
  by_cases h32 : 32 < l.length
  · have e : QM.allE l = 8 := by unfold QM.allE; rw [if_pos h32]
    rw [e]; clear e hI
    go_enter Try.func58, Try.ntmps58
    go_wp2_with fail
    go_ret
    exact ⟨rfl, Below.refl _ _⟩
  have KS := Lib.hid (fun k => @QM.all_stop l k h32)
  have KE : Hid (QM.uptoE l l.length = 0 → QM.allE l = 0) := Lib.hid (fun h => by unfold QM.allE; rw [if_neg h32, h])
  generalize QM.allE l = x at *
  have HB1 := Lib.hid ((Below.refl w.heap.size w).alloc (Nat.le_refl _) (.cells #[.string ⟨#[]⟩, .int .i64 0, .int .i64 0, .int .i64 0, .int .i64 0, .int .i64 0, .bool false] 52))
  have HB2 := Lib.hid (HB1.out.alloc HB1.out.size (.cells #[.string ⟨#[]⟩, .int .i64 0, .int .i64 0, .int .i64 0, .int .i64 0, .int .i64 0, .bool false] 52))
  have HP1 : Hid (PBox ((w.alloc (.cells #[.string ⟨#[]⟩, .int .i64 0, .int .i64 0, .int .i64 0, .int .i64 0, .int .i64 0, .bool false] 52)).alloc (.cells #[.string ⟨#[]⟩, .int .i64 0, .int .i64 0, .int .i64 0, .int .i64 0, .int .i64 0, .bool false] 52)) w.heap.size QM.zero) :=
    Lib.hid ((PBox.new w QM.zero).alloc _)
  have HP2 : Hid (PBox ((w.alloc (.cells #[.string ⟨#[]⟩, .int .i64 0, .int .i64 0, .int .i64 0, .int .i64 0, .int .i64 0, .bool false] 52)).alloc (.cells #[.string ⟨#[]⟩, .int .i64 0, .int .i64 0, .int .i64 0, .int .i64 0, .int .i64 0, .bool false] 52)) (w.heap.size + 1) (prevP l 0)) := Lib.hid (by
    rw [prev_zero]
    have := PBox.new (w.alloc (.cells #[.string ⟨#[]⟩, .int .i64 0, .int .i64 0, .int .i64 0, .int .i64 0, .int .i64 0, .bool false] 52)) QM.zero
    rw [show (w.alloc (.cells #[.string ⟨#[]⟩, .int .i64 0, .int .i64 0, .int .i64 0, .int .i64 0, .int .i64 0, .bool false] 52)).heap.size = w.heap.size + 1 by simp] at this
    exact this)
  have hgd := prod_guard
  go_enter Try.func58, Try.ntmps58
  go_wp2_with fail
  generalize (w.alloc (.cells #[.string ⟨#[]⟩, .int .i64 0, .int .i64 0, .int .i64 0, .int .i64 0, .int .i64 0, .bool false] 52)).alloc (.cells #[.string ⟨#[]⟩, .int .i64 0, .int .i64 0, .int .i64 0, .int .i64 0, .int .i64 0, .bool false] 52) = w0 at *
  have HI := Lib.hid hI
  clear hI HB1 h32
  go_loopw [6, 7, 15] (fun _ _ i wr => ∃ k : Nat, k ≤ l.length ∧ i = .int .i64 k ∧ Hid (QM.uptoE l k = 0) ∧ Hid (PBox wr w.heap.size QM.zero) ∧ Hid (PBox wr (w.heap.size + 1) (prevP l k)) ∧ Hid (Below w.heap.size w wr)) (fun _ _ i _ => l.length - (intOf i).toNat)
  case atStart => exact ⟨0, by omega, rfl, Lib.hid rfl, HP1, HP2, HB2⟩
  case round =>
    clear HP1 HP2 HB2
    obtain ⟨k, hk, rfl, HE, HP1, HP2, HW⟩ := hrel
    by_cases hlt : k < l.length
    · obtain ⟨b, off, p, rfl, hb, HV, q0, d0, d1, d2, d3, d4, d5, d6⟩ := prods_get (HI.out.below HW.out) hlt
      have HWA := Lib.hid (HW.out.alloc HW.out.size (.cells #[.string p.name, .int .i64 p.cur, .int .i64 p.mult, .int .i64 p.tick, .int .i64 p.low, .int .i64 p.high, .bool p.phys] 52))
      have HQ := Lib.hid (PBox.new wr p)
      have HL := Lib.hid (new_lt wr (.cells #[.string p.name, .int .i64 p.cur, .int .i64 p.mult, .int .i64 p.tick, .int .i64 p.low, .int .i64 p.high, .bool p.phys] 52))
      have C1 := Lib.hid (fun ww => qcheck_any p q0 ww)
      have HP1a := Lib.hid (HP1.out.alloc (.cells #[.string p.name, .int .i64 p.cur, .int .i64 p.mult, .int .i64 p.tick, .int .i64 p.low, .int .i64 p.high, .bool p.phys] 52))
      have HP2a := Lib.hid (HP2.out.alloc (.cells #[.string p.name, .int .i64 p.cur, .int .i64 p.mult, .int .i64 p.tick, .int .i64 p.low, .int .i64 p.high, .bool p.phys] 52))
      have O1 := Lib.hid (@one_check l k); have O2 := Lib.hid (@one_there l k); have O3 := Lib.hid (@one_ok l k)
      have OP := Lib.hid (@prev_ne l k HE.out)
      have HS := Lib.hid (fun h => @QM.upto_step l k HE.out h)
      have HF := Lib.hid (KS.out k hlt HE.out)
      have HPS : Hid (prevP l (k + 1) = p) := Lib.hid (by rw [prev_succ, HV.out])
      have HP0 : Hid (k = 0 → prevP l k = QM.zero) := Lib.hid (fun h => by rw [h]; rfl)
      rw [HV.out] at O1 O2 O3
      generalize QM.checkE p = ce at *
      generalize QM.oneE l k = oe at *
      generalize prevP l k = pp at *
      clear HP1 HP2 q0
      go_wp2_with fail
      refine (C1.out _).mono ?_
      rintro e w2 ⟨rfl, b2⟩
      have HW2 := Lib.hid (HWA.out.trans (b2.mono HWA.out.size))
      have HQ2 := Lib.hid (HQ.out.below b2 HL.out)
      have HP1b := Lib.hid (HP1a.out.below b2 HP1a.out.lt)
      have HP2b := Lib.hid (HP2a.out.below b2 HP2a.out.lt)
      clear b2 d0 d1 d2 d3 d4 d5 d6 HWA HQ HL HP1a HP2a
      by_cases hce : ce = 0
      · subst hce
        obtain ⟨d0, d1, d2, d3, d4, d5, d6⟩ := HQ2.out.cells
        obtain ⟨c0, c1, c2, c3, c4, c5, c6⟩ := HP2b.out.cells
        obtain ⟨z0, z1, z2, z3, z4, z5, z6⟩ := HP1b.out.cells
        have f0 := HP2b.out.frozen 0; have f1 := HP2b.out.frozen 1; have f2 := HP2b.out.frozen 2; have f3 := HP2b.out.frozen 3; have f4 := HP2b.out.frozen 4; have f5 := HP2b.out.frozen 5; have f6 := HP2b.out.frozen 6
        have HN := Lib.hid (HP2b.out.put p)
        have HN1 : Hid (PBox (((((((w2.setCell ⟨w.heap.size + 1, 0, none⟩ (.string p.name)).setCell ⟨w.heap.size + 1, 1, none⟩ (.int .i64 p.cur)).setCell ⟨w.heap.size + 1, 2, none⟩ (.int .i64 p.mult)).setCell ⟨w.heap.size + 1, 3, none⟩ (.int .i64 p.tick)).setCell ⟨w.heap.size + 1, 4, none⟩ (.int .i64 p.low)).setCell ⟨w.heap.size + 1, 5, none⟩ (.int .i64 p.high)).setCell ⟨w.heap.size + 1, 6, none⟩ (.bool p.phys)) w.heap.size QM.zero) :=
          Lib.hid ((PBox.put_below (Below.refl (w.heap.size + 1) w2) (Nat.le_refl _) p).block _ (by omega) |>.trans HP1b.out)
        have HNB := Lib.hid (PBox.put_below HW2.out (by omega : w.heap.size ≤ w.heap.size + 1) p)
        by_cases h0 : k = 0
        · have HZ := Lib.hid (HS.out (O3.out (by trivial) (.inl h0)))
          have hpp := HP0.out h0
          have E1 : ∀ ww, (Op.equalIn 10000 52 (prodA pp) (prodA QM.zero)).run Try.prog ww = .ok true ww := fun ww => by rw [prod_in, hpp, peq_iff.2 rfl]
          have HK0 := Lib.hid h0
          clear h0 hpp
          go_wp2_with fail
          go_roundw
          case rel => exact ⟨k + 1, by omega, by go_num, HZ, HN1, by rw [HPS.out]; exact HN, HNB⟩
          case measure => simp [intOf]; omega
        · have E1 : ∀ ww, (Op.equalIn 10000 52 (prodA pp) (prodA QM.zero)).run Try.prog ww = .ok false ww := fun ww => by rw [prod_in, OP.out (by omega)]
          have hk0 : 0 < k := by omega
          have HK0 := Lib.hid hk0
          clear h0 hk0
          cases ha : Op.bytesLess p.name.toList pp.name.toList
          · cases hb2 : (p.name.toList == pp.name.toList)
            · have HZ := Lib.hid (HS.out (O3.out (by trivial) (.inr (by rw [ha, hb2]; rfl))))
              go_wp2_with fail
              go_roundw
              case rel => exact ⟨k + 1, by omega, by go_num, HZ, HN1, by rw [HPS.out]; exact HN, HNB⟩
              case measure => simp [intOf]; omega
            · have HZ := Lib.hid (O2.out (by trivial) HK0.out (by rw [ha, hb2]; rfl))
              have HX := Lib.hid (HF.out (by rw [HZ.out]; decide))
              go_wp2_with fail
              go_ret
              exact ⟨by rw [HX.out, HZ.out]; rfl, HW2.out⟩
          · have HZ := Lib.hid (O2.out (by trivial) HK0.out (by rw [ha]; rfl))
            have HX := Lib.hid (HF.out (by rw [HZ.out]; decide))
            go_wp2_with fail
            go_ret
            exact ⟨by rw [HX.out, HZ.out]; rfl, HW2.out⟩
      · have hd : (ce != 0) = true := by simpa using hce
        have HZ := Lib.hid (O1.out hce)
        have HX := Lib.hid (HF.out (by rw [HZ.out]; exact hce))
        clear hce
        go_wp2_with fail
        go_ret
        exact ⟨by rw [HX.out, HZ.out]; rfl, HW2.out⟩
    · obtain rfl : k = l.length := by omega
      have HX := Lib.hid (KE.out HE.out)
      go_wp2_with fail
      go_ret
      exact ⟨by rw [HX.out]; rfl, HW.out⟩

end Go.Proofs.Ytagmknahmkniaaa

/- Contracts of layer 20: a day's market, what is asked of it; Fresh. -/
namespace VM
open Go Go.RowKit Go.Recs
structure Mkt where
  pa : Option Addr
  pl : List QM.Prod
  pc : Nat
  ba : Option Addr
  bl : List MR.Mk
  bc : Nat
  na : Option Addr
  nl : List MR.Mk
  nc : Nat
structure MktAt (w : World) (m : Mkt) : Prop where
  p : Prods w m.pa m.pl
  b : Marks w m.ba m.bl
  n : Marks w m.na m.nl
theorem MktAt.below {w w' : World} {m : Mkt} (h : MktAt w m) (hb : Below w.heap.size w w') : MktAt w' m := ⟨h.p.below hb, h.b.below hb, h.n.below hb⟩
def askE (m : Mkt) (hl : List PO.Pos) (legs : Nat) : Int :=
  if QM.allE m.pl ≠ 0 then QM.allE m.pl else if PO.checkE hl ≠ 0 then PO.checkE hl else if MR.checkE m.bl ≠ 0 then MR.checkE m.bl else if MR.checkE m.nl ≠ 0 then MR.checkE m.nl else if 2048 < legs then 8 else 0
end VM
namespace Go.Proofs.Ytagmknahmkniaaa
open Go.RowKit Go.Recs
set_option linter.unusedVariables false
set_option linter.unusedSimpArgs false
abbrev mktA (m : VM.Mkt) : Value := .agg #[.slice m.pa m.pl.length m.pc, .slice m.ba m.bl.length m.bc, .slice m.na m.nl.length m.nc]
abbrev mktC (m : VM.Mkt) : Array Value := #[.slice m.pa m.pl.length m.pc, .slice m.ba m.bl.length m.bc, .slice m.na m.nl.length m.nc]
theorem mkt_cells {w : World} {g : Nat} {m : VM.Mkt} (h : CB w g 93 (mktC m)) : w.cell? ⟨g, 0, none⟩ = some (.slice m.pa m.pl.length m.pc) ∧ w.cell? ⟨g, 1, none⟩ = some (.slice m.ba m.bl.length m.bc) ∧ w.cell? ⟨g, 2, none⟩ = some (.slice m.na m.nl.length m.nc) := ⟨h.cell 0, h.cell 1, h.cell 2⟩
set_option maxHeartbeats 4000000 in
theorem vfresh_any (p : QM.Prod) (y : NM.Leg) (n : Int) (hq : prodQ p) (w : World) :
    Calls Try.prog 23 #[prodA p, legA y, .int .i64 n] w fun e w' => e = .returned (.tuple #[.int .i64 (VM.carN p y.qty y.price n), .int .i64 (VM.carE p y.qty y.price n)]) ∧ Below w.heap.size w w' := by
  have C := Lib.hid (fun ww => vcarried_any p y.qty y.price n hq ww)
  have HB := Lib.hid (below_al (below_al (Below.refl w.heap.size w) (.cells #[.string p.name, .int .i64 p.cur, .int .i64 p.mult, .int .i64 p.tick, .int .i64 p.low, .int .i64 p.high, .bool p.phys] 52)) (.cells (legC y) 58))
  have HP : PBox ((w.alloc (.cells #[.string p.name, .int .i64 p.cur, .int .i64 p.mult, .int .i64 p.tick, .int .i64 p.low, .int .i64 p.high, .bool p.phys] 52)).alloc (.cells (legC y) 58)) w.heap.size p := (PBox.new w p).alloc _
  have HY := CB.new1 w (.cells #[.string p.name, .int .i64 p.cur, .int .i64 p.mult, .int .i64 p.tick, .int .i64 p.low, .int .i64 p.high, .bool p.phys] 52) 58 (legC y)
  obtain ⟨c0, c1, c2, c3, c4, c5, c6⟩ := HP.cells
  have y6 := HY.cell 6
  have y7 := HY.cell 7
  simp only [List.getElem?_toArray, List.getElem?_cons_zero, List.getElem?_cons_succ] at y6 y7
  generalize VM.carN p y.qty y.price n = cn at *
  generalize VM.carE p y.qty y.price n = ce at *
  clear HP HY hq
  go_enter Try.func23, Try.ntmps23
  go_wp2_with fail
  refine (C.out _).mono ?_
  rintro e w1 ⟨rfl, b1⟩
  have HB1 := Lib.hid (HB.out.trans (b1.mono HB.out.size))
  clear b1
  go_wp2_with fail
  go_ret2
  exact ⟨rfl, HB1.out⟩
set_option maxHeartbeats 8000000 in
theorem vcheck_any (m : VM.Mkt) (A : Option Addr) (hl : List PO.Pos) (c : Nat) (LA : Option Addr) (nl lc : Nat) (hn : nl ≤ 9223372036854775807) (w : World) (hM : VM.MktAt w m) (hH : Poss w A hl) :
    Calls Try.prog 49 #[mktA m, .slice A hl.length c, .slice LA nl lc] w fun e w' => e = .returned (.int .i64 (VM.askE m hl nl)) ∧ Below w.heap.size w w' := by
  have C1 := Lib.hid (fun ww h => qall_any m.pa m.pl m.pc ww h)
  have C2 := Lib.hid (fun ww h => pcheck15_any A hl hl.length c rfl ww h)
  have C3 := Lib.hid (fun ww h => mcheckall_any m.ba m.bl m.bl.length m.bc rfl ww h)
  have C4 := Lib.hid (fun ww h => mcheckall_any m.na m.nl m.nl.length m.nc rfl ww h)
  have HB0 := Lib.hid (below_al (Below.refl w.heap.size w) (.cells (mktC m) 93))
  have HX0 := Lib.hid (CB.new w 93 (mktC m))
  have HM0 := Lib.hid (hM.below ((Below.refl _ w).alloc (Nat.le_refl _) (.cells (mktC m) 93)))
  have HH0 := Lib.hid (hH.below ((Below.refl _ w).alloc (Nat.le_refl _) (.cells (mktC m) 93)))
  have HE : Hid (VM.askE m hl nl = if QM.allE m.pl ≠ 0 then QM.allE m.pl else if PO.checkE hl ≠ 0 then PO.checkE hl else if MR.checkE m.bl ≠ 0 then MR.checkE m.bl else if MR.checkE m.nl ≠ 0 then MR.checkE m.nl else if 2048 < nl then 8 else 0) := Lib.hid rfl
  generalize VM.askE m hl nl = ae at *
  generalize QM.allE m.pl = e1 at *
  generalize PO.checkE hl = e2 at *
  generalize MR.checkE m.bl = e3 at *
  generalize MR.checkE m.nl = e4 at *
  obtain ⟨x0, x1, x2⟩ := mkt_cells HX0.out
  clear hM hH
  go_enter Try.func49, Try.ntmps49
  go_wp2_with fail
  refine (C1.out _ HM0.out.p).mono ?_
  rintro e w1 ⟨rfl, b1⟩
  have HB1 := Lib.hid (HB0.out.trans (b1.mono HB0.out.size))
  have HX1 := Lib.hid (HX0.out.below b1 HX0.out.lt)
  have HM1 := Lib.hid (HM0.out.below b1)
  have HH1 := Lib.hid (HH0.out.below b1)
  clear b1 x0 x1 x2 HX0 HM0 HH0 HB0 C1
  by_cases g1 : e1 = 0
  · subst g1
    go_wp2_with fail
    refine (C2.out _ HH1.out).mono ?_
    rintro e w2 ⟨rfl, b2⟩
    have HB2 := Lib.hid (HB1.out.trans (b2.mono HB1.out.size))
    have HX2 := Lib.hid (HX1.out.below b2 HX1.out.lt)
    have HM2 := Lib.hid (HM1.out.below b2)
    clear b2 HX1 HM1 HH1 HB1 C2
    by_cases g2 : e2 = 0
    · subst g2
      obtain ⟨x0, x1, x2⟩ := mkt_cells HX2.out
      go_wp2_with fail
      refine (C3.out _ HM2.out.b).mono ?_
      rintro e w3 ⟨rfl, b3⟩
      have HB3 := Lib.hid (HB2.out.trans (b3.mono HB2.out.size))
      have HX3 := Lib.hid (HX2.out.below b3 HX2.out.lt)
      have HM3 := Lib.hid (HM2.out.below b3)
      clear b3 x0 x1 x2 HX2 HM2 HB2 C3
      by_cases g3 : e3 = 0
      · subst g3
        obtain ⟨x0, x1, x2⟩ := mkt_cells HX3.out
        go_wp2_with fail
        refine (C4.out _ HM3.out.n).mono ?_
        rintro e w4 ⟨rfl, b4⟩
        have HB4 := Lib.hid (HB3.out.trans (b4.mono HB3.out.size))
        clear b4 x0 x1 x2 HX3 HM3 HB3 C4
        by_cases g4 : e4 = 0
        · subst g4
          by_cases g5 : 2048 < nl
          · have HE2 : Hid (ae = 8) := Lib.hid (by rw [HE.out]; simp [g5])
            have g6 : (2048 : Int) < (nl : Int) := by omega
            clear HE g5
            go_wp2_with fail
            go_ret
            exact ⟨by rw [HE2.out]; rfl, HB4.out⟩
          · have HE2 : Hid (ae = 0) := Lib.hid (by rw [HE.out]; simp [g5])
            have g6 : ¬ (2048 : Int) < (nl : Int) := by omega
            clear HE g5
            go_wp2_with fail
            go_ret
            exact ⟨by rw [HE2.out]; rfl, HB4.out⟩
        · have HE2 : Hid (ae = e4) := Lib.hid (by rw [HE.out]; simp [g4])
          have hd : (e4 != 0) = true := by simpa using g4
          clear HE g4
          go_wp2_with fail
          go_ret
          exact ⟨by rw [HE2.out]; rfl, HB4.out⟩
      · have HE2 : Hid (ae = e3) := Lib.hid (by rw [HE.out]; simp [g3])
        have hd : (e3 != 0) = true := by simpa using g3
        clear HE g3
        go_wp2_with fail
        go_ret
        exact ⟨by rw [HE2.out]; rfl, HB3.out⟩
    · have HE2 : Hid (ae = e2) := Lib.hid (by rw [HE.out]; simp [g2])
      have hd : (e2 != 0) = true := by simpa using g2
      clear HE g2
      go_wp2_with fail
      go_ret
      exact ⟨by rw [HE2.out]; rfl, HB2.out⟩
  · have HE2 : Hid (ae = e1) := Lib.hid (by rw [HE.out]; simp [g1])
    have hd : (e1 != 0) = true := by simpa using g1
    clear HE g1
    go_wp2_with fail
    go_ret
    exact ⟨by rw [HE2.out]; rfl, HB1.out⟩
end Go.Proofs.Ytagmknahmkniaaa

/- Contracts of layer 20's reference: within, Carried, Fresh; two changes are one. -/
namespace VM
theorem car_zero {p : QM.Prod} {q a b : Int} : carE p q a b = 0 ↔ QM.checkE p = 0 ∧ (-16777216 ≤ a ∧ a ≤ 16777216) ∧ (-16777216 ≤ b ∧ b ≤ 16777216) ∧ (-1048576 ≤ q ∧ q ≤ 1048576) := by
  by_cases hc : QM.checkE p = 0
  · cases hb : (isP a && isP b)
    · rw [(car_price (net := q) hc hb).1]
      refine ⟨fun h => absurd h (by decide), fun ⟨_, h1, h2, _⟩ => ?_⟩
      rw [isP_true.2 h1, isP_true.2 h2] at hb
      cases hb
    · rw [(car_val (net := q) hc hb).1, QM.value_zero]
      simp only [Bool.and_eq_true, isP_true] at hb
      constructor
      · rintro ⟨h1, h2, h3⟩; exact ⟨h1, hb.1, hb.2, h3⟩
      · rintro ⟨h1, h2, h3, h4⟩; exact ⟨h1, ⟨by omega, by omega⟩, h4⟩
  · rw [(car_bad (net := q) (b := a) (n := b) hc).1]
    exact ⟨fun h => absurd h hc, fun h => absurd h.1 hc⟩
theorem car_mul {p : QM.Prod} {q a b : Int} (h : carE p q a b = 0) : carN p q a b = (b - a) * p.mult * q := by
  obtain ⟨hc, h1, h2, h3⟩ := car_zero.1 h
  have hv : QM.valueE p (b - a) q = 0 := QM.value_zero.2 ⟨hc, ⟨by omega, by omega⟩, h3⟩
  unfold carN QM.valueN
  rw [if_pos h, if_pos hv]
theorem car_two {p : QM.Prod} {q a b c : Int} (h1 : carE p q a b = 0) (h2 : carE p q b c = 0) : carE p q a c = 0 ∧ carN p q a b + carN p q b c = carN p q a c := by
  obtain ⟨hc, g1, g2, g3⟩ := car_zero.1 h1
  obtain ⟨_, _, g4, _⟩ := car_zero.1 h2
  have h3 : carE p q a c = 0 := car_zero.2 ⟨hc, g1, g4, g3⟩
  refine ⟨h3, ?_⟩
  rw [car_mul h1, car_mul h2, car_mul h3, ← Int.add_mul, ← Int.add_mul]
  congr 2
  omega
theorem car_range {p : QM.Prod} {q a b : Int} : -144115188075855872 ≤ carN p q a b ∧ carN p q a b ≤ 144115188075855872 := by
  unfold carN QM.valueN
  split
  · split
    · rename_i h; exact (QM.value_range h).2
    · omega
  · omega
end VM
namespace Go.Proofs.Ytagmknahmkniaaa
open Go.RowKit Go.Recs
set_option linter.unusedVariables false
set_option linter.unusedSimpArgs false
theorem rvwithin_any (n : Int) (w : World) : Calls Try.prog 38 #[.int .i64 n] w fun e w' => e = .returned (.bool (VM.isP n)) ∧ w = w' := by
  by_cases h1 : -16777216 ≤ n
  · by_cases h2 : n ≤ 16777216
    · rw [VM.isP_true.2 ⟨h1, h2⟩]
      go_enter Try.func38, Try.ntmps38
      go_wp2
      go_ret
      exact ⟨rfl, rfl⟩
    · have e : VM.isP n = false := QM.within_false.2 (.inr (by omega))
      rw [e]; clear e
      go_enter Try.func38, Try.ntmps38
      go_wp2
      go_ret
      exact ⟨rfl, rfl⟩
  · have e : VM.isP n = false := QM.within_false.2 (.inl (by omega))
    rw [e]; clear e
    go_enter Try.func38, Try.ntmps38
    go_wp2
    go_ret
    exact ⟨rfl, rfl⟩
set_option maxHeartbeats 4000000 in
theorem rvcarried_any (p : QM.Prod) (net b n : Int) (hq : prodQ p) (w : World) :
    Calls Try.prog 22 #[prodA p, .int .i64 net, .int .i64 b, .int .i64 n] w fun e w' => e = .returned (.tuple #[.int .i64 (VM.carN p net b n), .int .i64 (VM.carE p net b n)]) ∧ Below w.heap.size w w' := by
  have C0 := Lib.hid (fun ww => rqcheck_any p hq ww)
  have HB := Lib.hid (below_al (Below.refl w.heap.size w) (.cells #[.string p.name, .int .i64 p.cur, .int .i64 p.mult, .int .i64 p.tick, .int .i64 p.low, .int .i64 p.high, .bool p.phys] 52))
  have HP := Lib.hid (PBox.new w p)
  have HL := Lib.hid (new_lt w (.cells #[.string p.name, .int .i64 p.cur, .int .i64 p.mult, .int .i64 p.tick, .int .i64 p.low, .int .i64 p.high, .bool p.phys] 52))
  have P1 := Lib.hid (fun ww => rvwithin_any b ww)
  have P2 := Lib.hid (fun ww => rvwithin_any n ww)
  obtain ⟨c0, c1, c2, c3, c4, c5, c6⟩ := HP.out.cells
  by_cases hc : QM.checkE p = 0
  · rw [hc] at C0
    cases h1 : VM.isP b
    · obtain ⟨e1, e2⟩ := VM.car_price (p := p) (net := net) (b := b) (n := n) hc (by rw [h1]; rfl)
      rw [h1] at P1
      rw [e1, e2]; clear e1 e2 h1 hc hq
      go_enter Try.func22, Try.ntmps22
      go_wp2_with fail
      refine (C0.out _).mono ?_
      rintro e w1 ⟨rfl, b1⟩
      have HB1 := Lib.hid (HB.out.trans (b1.mono HB.out.size))
      clear b1
      go_wp2_with fail
      refine (P1.out _).mono ?_
      rintro e w2 ⟨rfl, rfl⟩
      go_wp2_with fail
      go_ret2
      exact ⟨rfl, HB1.out⟩
    cases h2 : VM.isP n
    · obtain ⟨e1, e2⟩ := VM.car_price (p := p) (net := net) (b := b) (n := n) hc (by rw [h1, h2]; rfl)
      rw [h1] at P1
      rw [h2] at P2
      rw [e1, e2]; clear e1 e2 h1 h2 hc hq
      go_enter Try.func22, Try.ntmps22
      go_wp2_with fail
      refine (C0.out _).mono ?_
      rintro e w1 ⟨rfl, b1⟩
      have HB1 := Lib.hid (HB.out.trans (b1.mono HB.out.size))
      clear b1
      go_wp2_with fail
      refine (P1.out _).mono ?_
      rintro e w2 ⟨rfl, rfl⟩
      go_wp2_with fail
      refine (P2.out _).mono ?_
      rintro e w2 ⟨rfl, rfl⟩
      go_wp2_with fail
      go_ret2
      exact ⟨rfl, HB1.out⟩
    obtain ⟨e1, e2⟩ := VM.car_val (p := p) (net := net) (b := b) (n := n) hc (by rw [h1, h2]; rfl)
    have i1 := VM.isP_true.1 h1
    have i2 := VM.isP_true.1 h2
    rw [h1] at P1
    rw [h2] at P2
    have C3 := Lib.hid (fun ww => rqvalue_any p (n - b) net hq ww)
    rw [e1, e2]; clear e1 e2 h1 h2 hc hq
    generalize QM.valueE p (n - b) net = ve at *
    generalize QM.valueN p (n - b) net = vn at *
    go_enter Try.func22, Try.ntmps22
    go_wp2_with fail
    refine (C0.out _).mono ?_
    rintro e w1 ⟨rfl, b1⟩
    have HB1 := Lib.hid (HB.out.trans (b1.mono HB.out.size))
    have HP1 := Lib.hid (HP.out.below b1 HL.out)
    clear b1 c0 c1 c2 c3 c4 c5 c6 HB
    obtain ⟨c0, c1, c2, c3, c4, c5, c6⟩ := HP1.out.cells
    go_wp2_with fail
    refine (P1.out _).mono ?_
    rintro e w2 ⟨rfl, rfl⟩
    go_wp2_with fail
    refine (P2.out _).mono ?_
    rintro e w2 ⟨rfl, rfl⟩
    go_wp2_with fail
    refine (C3.out _).mono ?_
    rintro e w2 ⟨rfl, b2⟩
    have HB2 := Lib.hid (HB1.out.trans (b2.mono HB1.out.size))
    clear b2
    go_wp2_with fail
    go_ret2
    exact ⟨rfl, HB2.out⟩
  · obtain ⟨e1, e2⟩ := VM.car_bad (p := p) (net := net) (b := b) (n := n) hc
    have hd : (QM.checkE p != 0) = true := by simpa using hc
    rw [e1, e2]; clear e1 e2
    generalize QM.checkE p = y at *
    clear hc hq
    go_enter Try.func22, Try.ntmps22
    go_wp2_with fail
    refine (C0.out _).mono ?_
    rintro e w1 ⟨rfl, b1⟩
    have HB1 := Lib.hid (HB.out.trans (b1.mono HB.out.size))
    clear b1
    go_wp2_with fail
    go_ret2
    exact ⟨rfl, HB1.out⟩
set_option maxHeartbeats 4000000 in
theorem rvfresh_any (p : QM.Prod) (y : NM.Leg) (n : Int) (hq : prodQ p) (w : World) :
    Calls Try.prog 24 #[prodA p, legA y, .int .i64 n] w fun e w' => e = .returned (.tuple #[.int .i64 (VM.carN p y.qty y.price n), .int .i64 (VM.carE p y.qty y.price n)]) ∧ Below w.heap.size w w' := by
  have C := Lib.hid (fun ww => rvcarried_any p y.qty y.price n hq ww)
  have HB := Lib.hid (below_al (below_al (Below.refl w.heap.size w) (.cells #[.string p.name, .int .i64 p.cur, .int .i64 p.mult, .int .i64 p.tick, .int .i64 p.low, .int .i64 p.high, .bool p.phys] 52)) (.cells (legC y) 58))
  have HP : PBox ((w.alloc (.cells #[.string p.name, .int .i64 p.cur, .int .i64 p.mult, .int .i64 p.tick, .int .i64 p.low, .int .i64 p.high, .bool p.phys] 52)).alloc (.cells (legC y) 58)) w.heap.size p := (PBox.new w p).alloc _
  have HY := CB.new1 w (.cells #[.string p.name, .int .i64 p.cur, .int .i64 p.mult, .int .i64 p.tick, .int .i64 p.low, .int .i64 p.high, .bool p.phys] 52) 58 (legC y)
  obtain ⟨c0, c1, c2, c3, c4, c5, c6⟩ := HP.cells
  have y6 := HY.cell 6
  have y7 := HY.cell 7
  simp only [List.getElem?_toArray, List.getElem?_cons_zero, List.getElem?_cons_succ] at y6 y7
  generalize VM.carN p y.qty y.price n = cn at *
  generalize VM.carE p y.qty y.price n = ce at *
  clear HP HY hq
  go_enter Try.func24, Try.ntmps24
  go_wp2_with fail
  refine (C.out _).mono ?_
  rintro e w1 ⟨rfl, b1⟩
  have HB1 := Lib.hid (HB.out.trans (b1.mono HB.out.size))
  clear b1
  go_wp2_with fail
  go_ret2
  exact ⟨rfl, HB1.out⟩
end Go.Proofs.Ytagmknahmkniaaa

/- Contracts of layer 20: what a position, and what a leg of the day, gets. -/
namespace Go.Proofs.Ytagmknahmkniaaa
open Go.RowKit Go.Recs
set_option linter.unusedVariables false
set_option linter.unusedSimpArgs false
theorem firstQV {w : World} {A : Option Addr} {l : List QM.Prod} (hI : Prods w A l) (s : ByteArray) : prodQ (firstP l s).1 := by
  unfold firstP
  split
  · next p h => exact hI.2 p (List.mem_of_find?_eq_some h)
  · refine ⟨?_, ?_, ?_, ?_, ?_, ?_⟩ <;> first | decide | (simp [QM.zero, i64, maxLen])
def strikeB (p : QM.Prod) (s : EM.Ser) : Bool := if s.kind = 1 then s.strike == 0 else QM.priceE p s.strike == 0
def schkE (l : List QM.Prod) (s : EM.Ser) : Int :=
  if QM.allE l ≠ 0 then QM.allE l else if (firstP l s.prod).2 = false ∨ ¬ (1 ≤ s.kind ∧ s.kind ≤ 3) then 19
  else if ¬ (0 ≤ s.expiry ∧ s.expiry ≤ 73048) then 15 else if strikeB (firstP l s.prod).1 s = false then 17 else 0
theorem sk_all {l : List QM.Prod} {s : EM.Ser} (h : QM.allE l ≠ 0) : schkE l s = QM.allE l := by unfold schkE; rw [if_pos h]
/-- what lots of a series get, and in which currency -/
def oneE (pl : List QM.Prod) (nl : List MR.Mk) (s : EM.Ser) (q f : Int) (known : Bool) : Int :=
  if (firstP pl s.prod).2 = false then 19 else if (known && MR.findB nl s) = false then 11 else VM.carE (firstP pl s.prod).1 q f (MR.findN nl s)
def oneN (pl : List QM.Prod) (nl : List MR.Mk) (s : EM.Ser) (q f : Int) (known : Bool) : Int := if oneE pl nl s q f known = 0 then VM.carN (firstP pl s.prod).1 q f (MR.findN nl s) else 0
def oneC (pl : List QM.Prod) (nl : List MR.Mk) (s : EM.Ser) (q f : Int) (known : Bool) : Int := if oneE pl nl s q f known = 0 then (firstP pl s.prod).1.cur else 0
theorem one_val {pl : List QM.Prod} {nl : List MR.Mk} {s : EM.Ser} {q f : Int} {known : Bool} {e : Int} (h : oneE pl nl s q f known = e) (he : e ≠ 0) : oneN pl nl s q f known = 0 ∧ oneC pl nl s q f known = 0 := by
  unfold oneN oneC; rw [h, if_neg he, if_neg he]; exact ⟨rfl, rfl⟩
theorem vnet_any (x : PO.Pos) (n : Int) (hn : wrap64 (x.lo - x.sh) = n) (w : World) :
    Calls Try.prog 63 #[posA x] w fun e w' => e = .returned (.int .i64 n) ∧ Below w.heap.size w w' := by
  have HB0 := Lib.hid ((Below.refl w.heap.size w).alloc (Nat.le_refl _) (.cells (posC x) 80))
  go_enter Try.func63, Try.ntmps63
  go_wp2_with fail
  go_ret
  first
  | exact ⟨rfl, HB0.out⟩
  | exact ⟨by rw [← hn]; rfl, HB0.out⟩
set_option maxHeartbeats 8000000 in
set_option maxRecDepth 100000 in
theorem vlegs_any (m : VM.Mkt) (y : NM.Leg) (w : World) (hM : VM.MktAt w m) :
    Calls Try.prog 52 #[mktA m, legA y] w fun e w' => e = .returned (.tuple #[.int .i64 (oneC m.pl m.nl y.ser y.qty y.price true), .int .i64 (oneN m.pl m.nl y.ser y.qty y.price true), .int .i64 (oneE m.pl m.nl y.ser y.qty y.price true)]) ∧ Below w.heap.size w w' := by
  have hpq := firstQV hM.p y.ser.prod
  have C1 := Lib.hid (fun ww h => qfind_any m.pa m.pl m.pc y.ser.prod ww h)
  have C2 := Lib.hid (fun ww h => mfind_any m.na m.nl m.nl.length m.nc rfl y.ser ww h)
  have C3 := Lib.hid (fun ww => vfresh_any (firstP m.pl y.ser.prod).1 y (MR.findN m.nl y.ser) hpq ww)
  have HB0 := Lib.hid (below_al (below_al (Below.refl w.heap.size w) (.cells (mktC m) 93)) (.cells (legC y) 58))
  have HX0 := Lib.hid ((CB.new w 93 (mktC m)).alloc (.cells (legC y) 58))
  have HY0 := Lib.hid (CB.new1 w (.cells (mktC m) 93) 58 (legC y))
  have HM0 := Lib.hid (hM.below (((Below.refl _ w).alloc (Nat.le_refl _) (.cells (mktC m) 93)).alloc (by simp) (.cells (legC y) 58)))
  have HE : Hid (oneE m.pl m.nl y.ser y.qty y.price true = if (firstP m.pl y.ser.prod).2 = false then 19 else if (true && MR.findB m.nl y.ser) = false then 11 else VM.carE (firstP m.pl y.ser.prod).1 y.qty y.price (MR.findN m.nl y.ser)) := Lib.hid rfl
  have HV := Lib.hid (fun e h he => @one_val m.pl m.nl y.ser y.qty y.price true e h he)
  have HN : Hid (oneE m.pl m.nl y.ser y.qty y.price true = 0 → oneN m.pl m.nl y.ser y.qty y.price true = VM.carN (firstP m.pl y.ser.prod).1 y.qty y.price (MR.findN m.nl y.ser) ∧ oneC m.pl m.nl y.ser y.qty y.price true = (firstP m.pl y.ser.prod).1.cur) := Lib.hid (fun h => by unfold oneN oneC; rw [if_pos h, if_pos h]; exact ⟨rfl, rfl⟩)
  obtain ⟨x0, x1, x2⟩ := mkt_cells HX0.out
  have yc := fun i => HY0.out.cell i
  have y2 : _ = some _ := yc 2
  have y3 : _ = some _ := yc 3
  have y4 : _ = some _ := yc 4
  have y5 : _ = some _ := yc 5
  clear yc
  generalize oneE m.pl m.nl y.ser y.qty y.price true = oe at *
  generalize oneN m.pl m.nl y.ser y.qty y.price true = on at *
  generalize oneC m.pl m.nl y.ser y.qty y.price true = oc at *
  generalize VM.carE (firstP m.pl y.ser.prod).1 y.qty y.price (MR.findN m.nl y.ser) = ce at *
  generalize VM.carN (firstP m.pl y.ser.prod).1 y.qty y.price (MR.findN m.nl y.ser) = cn at *
  generalize MR.findN m.nl y.ser = fn at *
  generalize MR.findB m.nl y.ser = fb at *
  generalize firstP m.pl y.ser.prod = pp at *
  obtain ⟨p, ok⟩ := pp
  clear hM hpq
  go_enter Try.func52, Try.ntmps52
  go_wp2_with fail
  refine (C1.out _ HM0.out.p).mono ?_
  rintro e w1 ⟨rfl, b1⟩
  have HB1 := Lib.hid (below_al (HB0.out.trans (b1.mono HB0.out.size)) (.cells #[.string p.name, .int .i64 p.cur, .int .i64 p.mult, .int .i64 p.tick, .int .i64 p.low, .int .i64 p.high, .bool p.phys] 52))
  have bx1 : Below w1.heap.size w1 (w1.alloc (.cells #[.string p.name, .int .i64 p.cur, .int .i64 p.mult, .int .i64 p.tick, .int .i64 p.low, .int .i64 p.high, .bool p.phys] 52)) := (Below.refl _ w1).alloc (Nat.le_refl _) _
  have HX1 := Lib.hid ((HX0.out.below b1 HX0.out.lt).alloc (.cells #[.string p.name, .int .i64 p.cur, .int .i64 p.mult, .int .i64 p.tick, .int .i64 p.low, .int .i64 p.high, .bool p.phys] 52))
  have HY1 := Lib.hid ((HY0.out.below b1 HY0.out.lt).alloc (.cells #[.string p.name, .int .i64 p.cur, .int .i64 p.mult, .int .i64 p.tick, .int .i64 p.low, .int .i64 p.high, .bool p.phys] 52))
  have HM1 := Lib.hid ((HM0.out.below b1).below bx1)
  have HP1 := Lib.hid (PBox.new w1 p)
  clear b1 bx1 x0 x1 x2 y2 y3 y4 y5 HX0 HY0 HM0 HB0 C1
  obtain ⟨x0, x1, x2⟩ := mkt_cells HX1.out
  have y2 : _ = some _ := HY1.out.cell 2
  have y3 : _ = some _ := HY1.out.cell 3
  have y4 : _ = some _ := HY1.out.cell 4
  have y5 : _ = some _ := HY1.out.cell 5
  cases ok
  · have HE2 : Hid (oe = 19) := Lib.hid (by rw [HE.out]; rfl)
    have HV2 := Lib.hid (HV.out 19 HE2.out (by decide))
    go_wp2_with fail
    go_ret3
    exact ⟨by rw [HE2.out, HV2.out.1, HV2.out.2]; rfl, HB1.out⟩
  · go_wp2_with fail
    generalize w1.alloc (.cells #[.string p.name, .int .i64 p.cur, .int .i64 p.mult, .int .i64 p.tick, .int .i64 p.low, .int .i64 p.high, .bool p.phys] 52) = u1 at *
    refine (C2.out _ HM1.out.n).mono ?_
    rintro e w2 ⟨rfl, b2⟩
    have HB2 := Lib.hid (HB1.out.trans (b2.mono HB1.out.size))
    have HY2 := Lib.hid (HY1.out.below b2 HY1.out.lt)
    have HP2 := Lib.hid (HP1.out.below b2 HP1.out.lt)
    clear b2 x0 x1 x2 y2 y3 y4 y5 HX1 HY1 HM1 HP1 HB1 C2
    cases fb
    · have HE2 : Hid (oe = 11) := Lib.hid (by rw [HE.out]; rfl)
      have HV2 := Lib.hid (HV.out 11 HE2.out (by decide))
      go_wp2_with fail
      go_ret3
      exact ⟨by rw [HE2.out, HV2.out.1, HV2.out.2]; rfl, HB2.out⟩
    · have HE2 : Hid (oe = ce) := Lib.hid (by rw [HE.out]; rfl)
      obtain ⟨p0, p1, p2, p3, p4, p5, p6⟩ := HP2.out.cells
      have y0 : _ = some _ := HY2.out.cell 0
      have y1 : _ = some _ := HY2.out.cell 1
      have y2 : _ = some _ := HY2.out.cell 2
      have y3 : _ = some _ := HY2.out.cell 3
      have y4 : _ = some _ := HY2.out.cell 4
      have y5 : _ = some _ := HY2.out.cell 5
      have y6 : _ = some _ := HY2.out.cell 6
      have y7 : _ = some _ := HY2.out.cell 7
      have y8 : _ = some _ := HY2.out.cell 8
      go_wp2_with fail
      refine (C3.out _).mono ?_
      rintro e w3 ⟨rfl, b3⟩
      have HB3 := Lib.hid (HB2.out.trans (b3.mono HB2.out.size))
      have HP3 := Lib.hid (HP2.out.below b3 HP2.out.lt)
      clear b3 p0 p1 p2 p3 p4 p5 p6 y0 y1 y2 y3 y4 y5 y6 y7 y8 HY2 HP2 HB2
      obtain ⟨p0, p1, p2, p3, p4, p5, p6⟩ := HP3.out.cells
      by_cases hce : ce = 0
      · subst hce
        have HN2 := Lib.hid (HN.out HE2.out)
        go_wp2_with fail
        go_ret3
        exact ⟨by rw [HE2.out, HN2.out.1, HN2.out.2]; rfl, HB3.out⟩
      · have HV2 := Lib.hid (HV.out ce HE2.out hce)
        have hd : (ce != 0) = true := by simpa using hce
        clear hce
        go_wp2_with fail
        go_ret3
        exact ⟨by rw [HE2.out, HV2.out.1, HV2.out.2]; rfl, HB3.out⟩
end Go.Proofs.Ytagmknahmkniaaa
