import Derived.Test.YtegipokbbmnahaaWireN
import Derived.Test.YtegipokbbmnahaaOpen
import Derived.Deep.RegionHeldLaw
namespace Go.Proofs.Ytegipokbbmnahaa.wireFrames
open Go.RowKit
set_option linter.unusedVariables false
attribute [local go_sem ↓] Go.wp_at_zero Go.wp_at_succ

theorem agree (l : List UInt8) (at' : Int) (hl : l.length ≤ 1000000) : ∃ (q : List UInt8) (b c : Int), (∀ (ww : World) (A : Option Addr) (cap : Nat), Bytes ww A l → l.length ≤ cap → Calls Try.prog 45 #[.slice A l.length cap, .int .i64 at'] ww fun e w' => (∃ v, e = .returned (.tuple #[v, .int .i64 b, .int .i64 c]) ∧ OB w' ww.heap.size v q) ∧ Below ww.heap.size ww w') ∧
    (∀ (ww : World) (A : Option Addr) (cap : Nat), Bytes ww A l → l.length ≤ cap → Calls Try.prog 46 #[.slice A l.length cap, .int .i64 at'] ww fun e w' => (∃ A2 c2, e = .returned (.tuple #[.slice A2 q.length c2, .int .i64 b, .int .i64 c]) ∧ Bytes w' A2 q) ∧ Below ww.heap.size ww w') := by
  by_cases h : 0 ≤ at' ∧ at' ≤ (l.length : Int)
  · obtain ⟨p, rfl⟩ : ∃ p : Nat, at' = (p : Int) := ⟨at'.toNat, by omega⟩
    refine ⟨_, _, _, fun ww A cap hb hc => frame_any A l.length cap l p ww rfl hc hb hl (by omega), fun ww A cap hb hc => (rframe_any A l.length cap l p ww rfl hc hb hl (by omega)).mono ?_⟩
    rintro e w' ⟨⟨v, rfl, h1⟩, h2⟩
    obtain ⟨A2, c2, rfl, h3⟩ := h1.bytes
    exact ⟨⟨A2, c2, rfl, h3⟩, h2⟩
  · refine ⟨[], 0, 2, fun ww A cap _ _ => (frame_out A l.length cap at' ww (by omega)).mono ?_, fun ww A cap _ _ => (rframe_out A l.length cap at' ww (by omega)).mono ?_⟩
    · rintro e w' ⟨rfl, rfl⟩
      exact ⟨⟨_, rfl, OB.nil _ _⟩, Below.refl _ _⟩
    · rintro e w' ⟨rfl, rfl⟩
      exact ⟨⟨_, _, rfl, Bytes.nil _ _⟩, Below.refl _ _⟩

/-- rows of bytes that may have been written over -/
def FT (w : World) (B : Nat) (A : Option Addr) (cap : Nat) (qs : List Pc) : Prop := OwnV w B 40 (.slice A qs.length cap) (qs.map Pc.val) ∧ ∀ q ∈ qs, ∃ l', l'.length = q.l.length ∧ OB w B q.val l'
theorem FT.of {w : World} {B B' : Nat} {v : Value} {ps : List (List UInt8)} (h : FR w B v ps) (hB : B' ≤ B) : ∃ A cap qs, qs.map Pc.l = ps ∧ v = .slice A (List.length qs) cap ∧ Pcs w A qs ∧ FT w B' A cap qs := by
  have hp := h.pcs
  obtain ⟨qs, h1, h2, h3⟩ := h
  obtain ⟨A, cap, e, hv⟩ := OwnV.vals h2
  rw [List.length_map] at e
  subst e
  refine ⟨A, cap, qs, h1, rfl, ⟨hv, fun q hq => ?_⟩, ⟨h2.1, ?_⟩, fun q hq => ⟨q.l, rfl, (h3 q hq).base hB⟩⟩
  · obtain ⟨A', c', e', hb⟩ := (h3 q hq).bytes
    unfold Pc.val at e'
    injection e' with e1
    rw [e1]; exact hb
  · rcases h2.2 with h | ⟨g, cp, cu, r1, r2, r3⟩
    · exact .inl h
    · exact .inr ⟨g, cp, cu, r1, by omega, r3⟩
theorem FT.below {w w' : World} {B : Nat} {A : Option Addr} {cap : Nat} {qs : List Pc} (h : FT w B A cap qs) (hb : Below w.heap.size w w') : FT w' B A cap qs := by
  refine ⟨OwnV.below h.1 hb, fun q hq => ?_⟩
  obtain ⟨l', e, o⟩ := h.2 q hq
  exact ⟨l', e, o.below hb⟩
theorem FT.tc {w w' : World} {B : Nat} {A : Option Addr} {cap : Nat} {qs : List Pc} (h : FT w B A cap qs) (t : TC B w w') : FT w' B A cap qs := by
  refine ⟨t.lists _ _ h.1, fun q hq => ?_⟩
  obtain ⟨l', e, o⟩ := h.2 q hq
  obtain ⟨l2, e2, o2⟩ := t.rows _ _ o
  exact ⟨l2, e2.trans e, o2⟩
theorem FT.get {w : World} {B : Nat} {A : Option Addr} {cap : Nat} {qs : List Pc} (h : FT w B A cap qs) {k : Nat} (hk : k < qs.length) : ∃ b off l', A = some ⟨b, off, none⟩ ∧ w.cell? ⟨b, off + k, none⟩ = some (.slice qs[k].A qs[k].l.length qs[k].c) ∧ l'.length = qs[k].l.length ∧ OB w B (.slice qs[k].A qs[k].l.length qs[k].c) l' := by
  obtain ⟨A', c', e, hv⟩ := OwnV.vals h.1
  rw [List.length_map] at e
  injection e with e1
  subst e1
  obtain ⟨b, off, rfl, hb, hc⟩ := Vals.get hv (k := k) (by rw [List.length_map]; exact hk)
  obtain ⟨l', e, o⟩ := h.2 _ (List.getElem_mem hk)
  exact ⟨b, off, l', rfl, by rw [hc, List.getElem_map]; rfl, e, o⟩

set_option maxHeartbeats 4000000 in
set_option maxRecDepth 100000 in
theorem walk (A : Option Addr) (cap : Nat) (b : List UInt8) (A' : Option Addr) (cap' : Nat) (p : List UInt8) (at' : Int) (w : World) (hA : Bytes w A b) (hcap : b.length ≤ cap) (hA' : Bytes w A' p) (hcap' : p.length ≤ cap') (_ : -9223372036854775808 ≤ at' ∧ at' ≤ 9223372036854775807) :
    Calls Try.prog 10 #[.slice A b.length cap, .slice A' p.length cap', .int .i64 at'] w fun e w' => e = .returned (.bool true) ∧ Below w.heap.size w w' := by
  have hlen := hA.len
  have hlen' := hA'.len
  by_cases hl : 5000 < b.length ∨ 5000 < p.length
  · clear hA hA'
    by_cases hl2 : 5000 < b.length
    · clear hl
      go_enter Try.func10, Try.ntmps10
      go_wp2_with fail
      refine (goes4_any _).mono ?_
      rintro e w1 ⟨rfl, b1⟩
      have HB1 := Lib.hid b1
      clear b1
      go_wp2_with fail
      go_ret
      exact ⟨rfl, HB1.out⟩
    · have hl3 : 5000 < p.length := by omega
      have d1 : decide (5000 < b.length) = false := decide_eq_false hl2
      clear hl
      go_enter Try.func10, Try.ntmps10
      go_wp2_with fail
      refine (goes4_any _).mono ?_
      rintro e w1 ⟨rfl, b1⟩
      have HB1 := Lib.hid b1
      clear b1
      go_wp2_with fail
      go_ret
      exact ⟨rfl, HB1.out⟩
  · have hl6 : b.length ≤ 1000000 := by omega
    have hp6 : p.length ≤ 1000000 := by omega
    have d1 : ¬ 5000 < b.length := by omega
    have d2 : ¬ 5000 < p.length := by omega
    clear hl
    obtain ⟨qn, to, er, CI, CR⟩ := agree b at' hl6
    have C1 := fun (ww : World) (A1 A2 : Option Addr) (c1 c2 : Nat) (h : Bytes ww A1 b) (h2 : Bytes ww A2 p) => putframe_any A1 A2 b.length c1 p.length c2 b p ww rfl rfl h h2 hl6 hp6
    have C2 := fun (ww : World) (h : Bytes ww A b) (h2 : Bytes ww A' p) => rputframe_any A A' cap cap' b p ww h h2 hl6 hp6
    have C3 := fun (ww : World) (A1 : Option Addr) (c1 : Nat) (h : Bytes ww A1 b) (hc : b.length ≤ c1) => frames_any A1 b.length c1 b ww rfl hc h hl6
    have C4 := fun (ww : World) (h : Bytes ww A b) => rframes_any A b.length cap b ww rfl hcap h hl6
    have C5 := fun (ww : World) (A1 : Option Addr) (c1 : Nat) (h : Bytes ww A1 p) => sum_any A1 p.length c1 p ww rfl h
    have C6 := fun (ww : World) (h : Bytes ww A' p) => rsum_any A' p.length cap' p ww rfl h
    generalize (XM.sum p : Int) = sm at *
    generalize (XM.frames b).1 = fs at *
    generalize ((XM.frames b).2 : Int) = fe at *
    generalize b ++ XM.frame p = res at *
    have HA := Lib.hid hA; have HA' := Lib.hid hA'; have HCI := Lib.hid CI; have HCR := Lib.hid CR; have H1 := Lib.hid C1; have H2 := Lib.hid C2; have H3 := Lib.hid C3; have H4 := Lib.hid C4; have H5 := Lib.hid C5; have H6 := Lib.hid C6
    clear hA hA' CI CR C1 C2 C3 C4 C5 C6
    go_enter Try.func10, Try.ntmps10
    go_wp2_with fail
    refine (lent_any A cap b w HA.out hl6).mono ?_
    rintro e w1 ⟨⟨g, off, cap1, rfl, ln1⟩, b1⟩
    have HLN := Lib.hid ln1; have HB1 := Lib.hid b1
    clear ln1 b1
    go_wp2_with fail
    refine (lent_any A' cap' p w1 (HA'.out.below HB1.out) hp6).mono ?_
    rintro e w2 ⟨⟨g2, off2, cap2, rfl, ln2⟩, b2⟩
    have HLN1 := Lib.hid (HLN.out.below b2); have HLN2 := Lib.hid ln2; have HB2 := Lib.hid (HB1.out.trans (b2.mono HB1.out.size))
    clear ln2 b2 HLN HB1
    go_wp2_with fail
    refine (H1.out _ _ _ _ _ HLN1.out.bytes HLN2.out.bytes).mono ?_
    rintro e w3 ⟨⟨v3, rfl, o3⟩, b3⟩
    have HO3 := Lib.hid o3; have HB3 := Lib.hid b3
    clear o3 b3
    go_wp2_with fail
    (with_reducible refine (HCI.out _ _ _ (HLN1.out.bytes.below HB3.out) HLN1.out.cap).mono ?_)
    rintro e w4 ⟨⟨v4, rfl, o4⟩, b4⟩
    have HO4 := Lib.hid (o4.base HB3.out.size); have HB4 := Lib.hid (HB3.out.trans (b4.mono HB3.out.size))
    have HO34 := Lib.hid (HO3.out.below b4)
    clear o4 b4 HO3 HB3
    go_wp2_with fail
    (with_reducible refine (HCR.out _ _ _ ((HA.out.below HB2.out).below HB4.out) hcap).mono ?_)
    rintro e w5 ⟨⟨A5, c5, rfl, y5⟩, b5⟩
    have HY5 := Lib.hid y5; have HB5 := Lib.hid (HB4.out.trans (b5.mono HB4.out.size))
    have HO35 := Lib.hid (HO34.out.below b5); have HO45 := Lib.hid (HO4.out.below b5)
    clear y5 b5 HO34 HO4 HB4
    go_wp2_with fail
    (with_reducible refine (H3.out _ _ _ (HLN1.out.bytes.below HB5.out) HLN1.out.cap).mono ?_)
    rintro e w6 ⟨⟨v6, rfl, o6⟩, b6⟩
    obtain ⟨A6, c6, qs, eqs, rfl, hp6', hft6⟩ := FT.of o6 HB5.out.size
    have HP6 := Lib.hid hp6'; have HF6 := Lib.hid hft6; have HEQ := Lib.hid eqs
    have HB6 := Lib.hid (HB5.out.trans (b6.mono HB5.out.size))
    have HO36 := Lib.hid (HO35.out.below b6); have HO46 := Lib.hid (HO45.out.below b6); have HY6 := Lib.hid (HY5.out.below b6)
    clear o6 b6 hp6' hft6 eqs HO35 HO45 HY5 HB5
    go_wp2_with fail
    (with_reducible refine (H4.out _ ((HA.out.below HB2.out).below HB6.out)).mono ?_)
    rintro e w7 ⟨⟨v7, rfl, o7⟩, b7⟩
    obtain ⟨A7, c7, qr, eqr, rfl, hp7⟩ := o7.pcs
    have HP7 := Lib.hid hp7; have HP67 := Lib.hid (HP6.out.below b7); have HF7 := Lib.hid (HF6.out.below b7); have HER := Lib.hid (HEQ.out.trans eqr.symm)
    have HB7 := Lib.hid (HB6.out.trans (b7.mono HB6.out.size))
    have HO37 := Lib.hid (HO36.out.below b7); have HO47 := Lib.hid (HO46.out.below b7); have HY7 := Lib.hid (HY6.out.below b7)
    clear o7 b7 hp7 eqr HP6 HF6 HEQ HO36 HO46 HY6 HB6
    have ho3 := HO37.out
    obtain ⟨A3, c3, rfl, hy3⟩ := ho3.bytes
    have ho4 := HO47.out
    obtain ⟨A4, c4, rfl, hy4⟩ := ho4.bytes
    have hwd : Below w7.heap.size w7 w7.drew := (Below.refl _ _).drew
    have hS : ∀ ww, Below w7.heap.size w7 ww → (convert 40 9 (.slice A3 res.length c3)).run Try.prog ww = .ok (.string (S res)) ww ∧ (convert 40 9 (.slice A4 qn.length c4)).run Try.prog ww = .ok (.string (S qn)) ww ∧ (convert 40 9 (.slice A5 qn.length c5)).run Try.prog ww = .ok (.string (S qn)) ww :=
      fun ww h => ⟨str_of (hy3.below h) c3, str_of (hy4.below h) c4, str_of (HY7.out.below h) c5⟩
    have HS := Lib.hid hS
    have HWD := Lib.hid hwd
    have HYA := Lib.hid ((HA.out.below HB2.out).below HB7.out)
    have HYA' := Lib.hid ((HA'.out.below HB2.out).below HB7.out)
    have HYL := Lib.hid (HLN2.out.bytes.below HB7.out)
    clear ho3 ho4 hy3 hy4 hS hwd
    go_wp2_with fail
    go_region_held_law (fun ww => (convert 40 9 (.slice A3 res.length c3)).run Try.prog ww = .ok (.string (S res)) ww ∧ (convert 40 9 (.slice A4 qn.length c4)).run Try.prog ww = .ok (.string (S qn)) ww ∧ (convert 40 9 (.slice A5 qn.length c5)).run Try.prog ww = .ok (.string (S qn)) ww)
      (first | exact HS.out _ HB9.out | exact HS.out _ HB8.out | exact HS.out _ HWD.out | assumption)
      (first
        | (go_at_call 49; refine (H2.out _ (HYA.out.below HWD.out) (HYA'.out.below HWD.out)).mono ?_; rintro e w8 ⟨⟨v8, rfl, o8⟩, b8⟩; obtain ⟨A8, c8, rfl, hb8⟩ := o8.bytes; have hcv8 := str_of hb8 c8; have HB8 := Lib.hid (HWD.out.trans b8); clear o8 b8 hb8)
        | (go_at_call 50; refine (rsame_pcs _ _ _ _ qs qr _ _ _ rfl rfl (HP67.out.below HB8.out) (HP7.out.below HB8.out) HER.out).mono ?_; rintro e w9 ⟨rfl, k9, hk9⟩; have HB9 := Lib.hid (show Below w7.heap.size w7 w9 by rw [hk9]; exact below_drewN HB8.out k9); clear hk9)
        | (go_at_call 51; refine (H5.out _ _ _ (HYL.out.below HB9.out)).mono ?_; rintro e w10 ⟨rfl, rfl⟩)
        | (go_at_call 52; refine (H6.out _ (HYA'.out.below HB9.out)).mono ?_; rintro e w10 ⟨rfl, rfl⟩))
    all_goals (
      clear hcv8 HS HWD HYA HYA' HYL HCI HCR H1 H2 H3 H4 H5 H6 HP67 HP7 HER HY7 HB8
      have HOa := Lib.hid (HO37.out.below HB9.out)
      have HOb := Lib.hid (HO47.out.below HB9.out)
      have HFa := Lib.hid (HF7.out.below HB9.out)
      have HB29 := Lib.hid (HB7.out.trans (HB9.out.mono HB7.out.size))
      clear HO37 HO47 HF7 HB7 HB9
      go_wp2_with fail
      refine (touched_any _ _ _ _ _ _ HOa.out rfl).mono ?_
      rintro e w10 ⟨rfl, t10⟩
      have HFb := Lib.hid (HFa.out.tc t10)
      obtain ⟨q10, eq10, o10⟩ := t10.rows _ _ HOb.out
      have HOc := Lib.hid o10; have HEc := Lib.hid eq10
      have HB210 := Lib.hid (HB29.out.trans t10.below)
      clear t10 o10 eq10 HOa HOb HFa HB29
      go_wp2_with fail
      refine (touched_any _ _ _ _ _ _ HOc.out HEc.out.symm).mono ?_
      rintro e w11 ⟨rfl, t11⟩
      have HFc := Lib.hid (HFb.out.tc t11)
      have HB211 := Lib.hid (HB210.out.trans t11.below)
      have hqn : qs.length ≤ 9223372036854775807 := by have := OwnV.len HFc.out.1; rw [List.length_map] at this; exact this
      clear t11 HOc HEc HFb HB210
      go_wp2_with fail
      go_loopw [109] (fun i wr => ∃ (k : Nat), k ≤ qs.length ∧ i = .int .i64 k ∧ Hid (FT wr w2.heap.size A6 c6 qs) ∧ Hid (Below w2.heap.size w2 wr)) (fun i _ => qs.length - (intOf i).toNat)
      case atStart => exact ⟨0, by omega, rfl, HFc, HB211⟩
      case round =>
        clear HFc HB211
        obtain ⟨k, hk, rfl, HF, HB⟩ := hrel
        by_cases hlt : k < qs.length
        · obtain ⟨g6, off6, m, rfl, hcell, hml, om⟩ := HF.out.get hlt
          have HOm := Lib.hid om; have HM := Lib.hid hml.symm
          generalize qs[k] = qk at *
          clear om hml
          go_wp2_with fail
          refine (touched_any _ _ _ _ _ _ HOm.out HM.out).mono ?_
          rintro e w12 ⟨rfl, t12⟩
          have HF2 := Lib.hid (HF.out.tc t12)
          have HB2' := Lib.hid (HB.out.trans t12.below)
          clear t12 HOm HM hcell
          go_wp2_with fail
          go_roundw
          case rel => exact ⟨k + 1, by omega, by go_num, HF2, HB2'⟩
          case measure => simp [intOf]; omega
        · obtain rfl : k = qs.length := by omega
          have HLNa := Lib.hid (HLN1.out.below HB.out)
          have HLNb := Lib.hid (HLN2.out.below HB.out)
          have HB0 := Lib.hid (HB2.out.trans (HB.out.mono HB2.out.size))
          have HAa := Lib.hid (HA.out.below HB0.out)
          have HAb := Lib.hid (HA'.out.below HB0.out)
          clear HF
          go_wp2_with fail
          refine (kept_any g off A cap1 cap b _ HLNa.out HAa.out hl6).mono ?_
          rintro e w13 ⟨rfl, k13, h13⟩
          have HB13 := Lib.hid (show Below wr.heap.size wr w13 by rw [h13]; exact below_drewN (Below.refl _ _) k13)
          clear h13
          go_wp2_with fail
          refine (kept_any g2 off2 A' cap2 cap' p _ (HLNb.out.below HB13.out) (HAb.out.below HB13.out) hp6).mono ?_
          rintro e w14 ⟨rfl, k14, h14⟩
          have HB14 := Lib.hid (show Below wr.heap.size wr w14 by rw [h14]; exact below_drewN HB13.out k14)
          clear h14
          go_wp2_with fail
          refine (goes4_any _).mono ?_
          rintro e w15 ⟨rfl, b15⟩
          have HB15 := Lib.hid (HB14.out.trans (b15.mono HB14.out.size))
          clear b15
          go_wp2_with fail
          go_ret
          exact ⟨rfl, HB0.out.trans (HB15.out.mono HB0.out.size)⟩)
end Go.Proofs.Ytegipokbbmnahaa.wireFrames
