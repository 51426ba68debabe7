/- Put together: GivM, GivR, WGiveupDivides, SizedRec, OpenProd, OpenNov, OpenGiv. -/
import Derived.Test.YthippdmfeeopkaaBun11
import Derived.Test.YthippdmfeeopkaaBun10
import Derived.Deep.RegionHeld3
import Derived.Test.YthippdmfeeopkaaBun3
import Derived.SizedLaws
import Derived.ProofKit
import Derived.Test.YthippdmfeeopkaaBun4
import Derived.OpenShut
import Derived.ShutString
import Derived.ChangeOld
import Derived.Test.YthippdmfeeopkaaBun5
import Derived.Test.YthippdmfeeopkaaBun6
/- Contracts of layer 14: Divide. -/
namespace Go.Proofs.Ythippdmfeeopkaa
open Go.RowKit Go.Recs
set_option linter.unusedVariables false
set_option linter.unusedSimpArgs false
set_option maxHeartbeats 16000000 in
set_option maxRecDepth 100000 in
theorem gdivide_any (t : TM.Trd) (b : Bool) (A : Option Addr) (p : List GM.Part) (n cap : Nat) (hn : n = p.length) (first : Int) (w : World) (hI : Parts w A p) (hf : i64 first) :
    Calls Try.prog 17 #[trdA t, .bool b, .slice A n cap, .int .i64 first] w fun e w' => ∃ v, e = .returned (.tuple #[v, .int .i64 (GM.divE t b p first)]) ∧ OwnR w' w.heap.size 45 13 v ((GM.divL t b p first).map trdV) ∧ Below w.heap.size w w' := by
  subst hn
  have hlen := hI.len
  have HB0 := Lib.hid (below_al (Below.refl w.heap.size w) (.cells (trdC t) 45))
  have HT0 := Lib.hid (CB.new w 45 (trdC t))
  have HI0 := Lib.hid (hI.below HB0.out)
  have C1 := Lib.hid (fun ww h => gcheck_any t A p p.length cap rfl ww h)
  have C2 := Lib.hid (fun ww => gwithin_any first 1 (1152921504606846976 - ((p.length : Int) - 1)) ww)
  clear hI
  by_cases hp : GM.partsE t.qty p = 0
  · by_cases hr : 1 ≤ first ∧ first ≤ 1152921504606846976 - ((p.length : Int) - 1)
    · have hwi : (decide (1 ≤ first) && decide (first ≤ 1152921504606846976 - ((p.length : Int) - 1))) = true := by simp; omega
      cases b
      · have HPL := Lib.hid (GM.parts_inv hp).1.2
        have KB : Hid (∀ k, k < p.length → NM.aeq (GM.pAt p k).am (GM.pAt p k).an t.bm t.bn = true → GM.divE t false p first = 21 ∧ GM.divL t false p first = []) := Lib.hid (fun k h hx => by
          have e : GM.divE t false p first = 21 := by unfold GM.divE; rw [if_pos hp, if_pos hr, if_pos (GM.clash_bad (b := false) h hx)]
          exact ⟨e, by unfold GM.divL; rw [e]; rfl⟩)
        have KO : Hid ((∀ j, j < p.length → NM.aeq (GM.pAt p j).am (GM.pAt p j).an t.bm t.bn = false) → GM.divE t false p first = 0 ∧ GM.divL t false p first = GM.taken t false p first p.length) := Lib.hid (fun h => by
          have e : GM.divE t false p first = 0 := by unfold GM.divE; rw [if_pos hp, if_pos hr, if_neg (by rw [GM.clash_ok (b := false) h]; simp)]
          exact ⟨e, by unfold GM.divL; rw [if_pos e]⟩)
        have C3 := Lib.hid (fun x id ww => taken_any t false x id ww)
        rw [hwi] at C2
        rw [hp] at C1
        generalize GM.divE t false p first = de at *
        generalize GM.divL t false p first = dl at *
        obtain ⟨f1, f2⟩ := hr
        have hpl := HPL.out
        clear hp hwi hf
        go_enter Try.func17, Try.ntmps17
        go_wp2_with fail
        generalize w.alloc (.cells #[.int .i64 t.id, .int .i64 t.day, .int .i64 t.time, .string t.ser.prod, .int .i64 t.ser.kind, .int .i64 t.ser.expiry, .int .i64 t.ser.strike, .int .i64 t.qty, .int .i64 t.price, .string t.bm, .string t.bn, .string t.sm, .string t.sn] 45) = w0 at *
        refine (C1.out _ HI0.out).mono ?_
        rintro e w1 ⟨rfl, b1⟩
        have HB1 := Lib.hid (HB0.out.trans (b1.mono HB0.out.size))
        have HI1 := Lib.hid (HI0.out.below b1)
        have HT1 := Lib.hid (HT0.out.below b1 HT0.out.lt)
        have k := HT1.out.cell
        have htl1 := HT1.out.lt
        clear b1 HB0 HI0 HT0 C1
        go_wp2_with fail
        refine (C2.out _).mono ?_
        rintro e w2 ⟨rfl, rfl⟩
        have HB2 := Lib.hid (below_al HB1.out (.cells #[.string t.bm, .string t.bn] 26))
        have HI2 := Lib.hid (HI1.out.below (below_al (Below.refl w1.heap.size w1) (.cells #[.string t.bm, .string t.bn] 26)))
        have HT2 := Lib.hid (HT1.out.alloc (.cells #[.string t.bm, .string t.bn] 26))
        have HG2 := Lib.hid (CB.new w1 26 #[.string t.bm, .string t.bn])
        clear HB1 HI1
        go_wp2_with fail
        clear k htl1
        generalize hgb : w1.heap.size = gb at *
        generalize w1.alloc (.cells #[.string t.bm, .string t.bn] 26) = w2 at *
        clear hgb HT1
        go_loopw [8, 12, 13, 35] (fun v _ _ i wr => ∃ k : Nat, k ≤ p.length ∧ i = .int .i64 (k : Int) ∧ Hid (OwnR wr w2.heap.size 45 13 v ((GM.taken t false p first k).map trdV)) ∧ Hid (∀ j, j < k → NM.aeq (GM.pAt p j).am (GM.pAt p j).an t.bm t.bn = false) ∧ Hid (Below w2.heap.size w2 wr)) (fun _ _ _ i _ => p.length - (intOf i).toNat)
        case atStart => exact ⟨0, by omega, rfl, Lib.hid (OwnR.nil _ _ _ _), Lib.hid (fun j h => by omega), Lib.hid (Below.refl _ _)⟩
        case round =>
          obtain ⟨k, hk, rfl, HO, HE, HB⟩ := hrel
          by_cases hlt : k < p.length
          · obtain ⟨b, off, x, rfl, hb, HV, q, d0, d1, d2⟩ := parts_get (HI2.out.below HB.out) hlt
            have HBx := Lib.hid (HB.out.alloc HB.out.size (.cells (partC x) 113))
            have HOx := Lib.hid (HO.out.alloc (.cells (partC x) 113))
            have HGr := Lib.hid (HG2.out.below HB.out HG2.out.lt)
            have g0 : wr.cell? ⟨gb, 0, none⟩ = some (.string t.bm) := HGr.out.cell 0
            have g1 : wr.cell? ⟨gb, 1, none⟩ = some (.string t.bn) := HGr.out.cell 1
            have hgl := HGr.out.lt
            have HTr := Lib.hid (HT2.out.below HB.out HT2.out.lt)
            have tc := HTr.out.cell
            have htl := HTr.out.lt
            have E1 : ∀ ww, (Op.equalIn 10000 26 (.agg #[.string x.am, .string x.an]) (.agg #[.string t.bm, .string t.bn])).run Try.prog ww = .ok (NM.aeq x.am x.an t.bm t.bn) ww := fun ww => acc_in _ _ _ _ ww
            have ga := acc_guard
            cases hq : NM.aeq x.am x.an t.bm t.bn
            · have HE2 : Hid (∀ j, j < k + 1 → NM.aeq (GM.pAt p j).am (GM.pAt p j).an t.bm t.bn = false) := Lib.hid (fun j hj => by
                rcases Nat.lt_or_ge j k with g | g
                · exact HE.out j g
                · obtain rfl : j = k := by omega
                  rw [HV.out]; exact hq)
              rw [hq] at E1
              have C4 := Lib.hid (fun ww => C3.out x (first + (k : Int)) ww)
              have HN : Hid ((GM.taken t false p first (k + 1)).map trdV = (GM.taken t false p first k).map trdV ++ [trdV (GM.takenT t false x (first + (k : Int)))]) := Lib.hid (by rw [GM.taken_succ, HV.out, List.map_append]; rfl)
              have HZ : Hid (((GM.taken t false p first k).map trdV).length ≤ 1024) := Lib.hid (by rw [List.length_map, GM.taken_len]; have := HPL.out; omega)
              have hf2 : first + (k : Int) ≤ 1152921504606846976 := by omega
              generalize GM.takenT t false x (first + (k : Int)) = y at *
              clear hq HV q HE
              go_wp2_with fail
              refine (C4.out _).mono ?_
              clear tc
              rintro e w5 ⟨rfl, b5⟩
              have HB5 := Lib.hid (HBx.out.trans (b5.mono HBx.out.size))
              have HO5 := Lib.hid (HOx.out.below b5)
              have HS5 := Lib.hid (HB2.out.trans (HB5.out.mono HB2.out.size))
              clear b5 HOx
              go_wp2_with (at_builtin; go_loud (refine wpList_pushR _ [.int .i64 y.id, .int .i64 y.day, .int .i64 y.time, .string y.ser.prod, .int .i64 y.ser.kind, .int .i64 y.ser.expiry, .int .i64 y.ser.strike, .int .i64 y.qty, .int .i64 y.price, .string y.bm, .string y.bn, .string y.sm, .string y.sn] (trdV_one [y] (trdV y) (by simp)) w2.heap.size ((GM.taken t false p first k).map trdV) _ _ 48 45 13 144 _ Try.underlying48 info_trd rfl (by decide) rfl rfl rfl _ rfl rfl HO5.out ?c1 ?c2 HB5.out.size ?_))
              case c1 => have := HZ.out; omega
              case c2 => have := HZ.out; simp only [maxLen]; omega
              intro v6 w6 o6 b6 _ _
              have HO6 : Hid (OwnR w6 w2.heap.size 45 13 v6 ((GM.taken t false p first (k + 1)).map trdV)) := Lib.hid (by rw [HN.out]; exact o6)
              have HB6 := Lib.hid (HB5.out.trans b6)
              clear o6 b6 HO5 HZ HN
              go_wp2_with fail
              go_roundw
              case rel => exact ⟨k + 1, by omega, by go_num, HO6, HE2, HB6⟩
              case measure => simp [intOf]; omega
            · have HR := Lib.hid (KB.out k hlt (by rw [HV.out]; exact hq))
              have HS5 := Lib.hid (HB2.out.trans (HBx.out.mono HB2.out.size))
              rw [hq] at E1
              clear hq HV q HE tc
              go_wp2_with fail
              go_ret2
              exact ⟨_, by rw [HR.out.1] <;> rfl, by rw [HR.out.2]; exact OwnR.nil _ _ _ _, HS5.out⟩
          · obtain rfl : k = p.length := by omega
            have HR := Lib.hid (KO.out HE.out)
            have HS5 := Lib.hid (HB2.out.trans (HB.out.mono HB2.out.size))
            go_wp2_with fail
            go_ret2
            exact ⟨_, by rw [HR.out.1] <;> rfl, by rw [HR.out.2]; exact HO.out.lower HB2.out.size, HS5.out⟩
      · have HPL := Lib.hid (GM.parts_inv hp).1.2
        have KB : Hid (∀ k, k < p.length → NM.aeq (GM.pAt p k).am (GM.pAt p k).an t.sm t.sn = true → GM.divE t true p first = 21 ∧ GM.divL t true p first = []) := Lib.hid (fun k h hx => by
          have e : GM.divE t true p first = 21 := by unfold GM.divE; rw [if_pos hp, if_pos hr, if_pos (GM.clash_bad (b := true) h hx)]
          exact ⟨e, by unfold GM.divL; rw [e]; rfl⟩)
        have KO : Hid ((∀ j, j < p.length → NM.aeq (GM.pAt p j).am (GM.pAt p j).an t.sm t.sn = false) → GM.divE t true p first = 0 ∧ GM.divL t true p first = GM.taken t true p first p.length) := Lib.hid (fun h => by
          have e : GM.divE t true p first = 0 := by unfold GM.divE; rw [if_pos hp, if_pos hr, if_neg (by rw [GM.clash_ok (b := true) h]; simp)]
          exact ⟨e, by unfold GM.divL; rw [if_pos e]⟩)
        have C3 := Lib.hid (fun x id ww => taken_any t true x id ww)
        rw [hwi] at C2
        rw [hp] at C1
        generalize GM.divE t true p first = de at *
        generalize GM.divL t true p first = dl at *
        obtain ⟨f1, f2⟩ := hr
        have hpl := HPL.out
        clear hp hwi hf
        go_enter Try.func17, Try.ntmps17
        go_wp2_with fail
        generalize w.alloc (.cells #[.int .i64 t.id, .int .i64 t.day, .int .i64 t.time, .string t.ser.prod, .int .i64 t.ser.kind, .int .i64 t.ser.expiry, .int .i64 t.ser.strike, .int .i64 t.qty, .int .i64 t.price, .string t.bm, .string t.bn, .string t.sm, .string t.sn] 45) = w0 at *
        refine (C1.out _ HI0.out).mono ?_
        rintro e w1 ⟨rfl, b1⟩
        have HB1 := Lib.hid (HB0.out.trans (b1.mono HB0.out.size))
        have HI1 := Lib.hid (HI0.out.below b1)
        have HT1 := Lib.hid (HT0.out.below b1 HT0.out.lt)
        have k := HT1.out.cell
        have htl1 := HT1.out.lt
        clear b1 HB0 HI0 HT0 C1
        go_wp2_with fail
        refine (C2.out _).mono ?_
        rintro e w2 ⟨rfl, rfl⟩
        have HB2 := Lib.hid (below_al HB1.out (.cells #[.string t.sm, .string t.sn] 26))
        have HI2 := Lib.hid (HI1.out.below (below_al (Below.refl w1.heap.size w1) (.cells #[.string t.sm, .string t.sn] 26)))
        have HT2 := Lib.hid (HT1.out.alloc (.cells #[.string t.sm, .string t.sn] 26))
        have HG2 := Lib.hid (CB.new w1 26 #[.string t.sm, .string t.sn])
        clear HB1 HI1
        go_wp2_with fail
        clear k htl1
        generalize hgb : w1.heap.size = gb at *
        generalize w1.alloc (.cells #[.string t.sm, .string t.sn] 26) = w2 at *
        clear hgb HT1
        go_loopw [8, 12, 13, 35] (fun v _ _ i wr => ∃ k : Nat, k ≤ p.length ∧ i = .int .i64 (k : Int) ∧ Hid (OwnR wr w2.heap.size 45 13 v ((GM.taken t true p first k).map trdV)) ∧ Hid (∀ j, j < k → NM.aeq (GM.pAt p j).am (GM.pAt p j).an t.sm t.sn = false) ∧ Hid (Below w2.heap.size w2 wr)) (fun _ _ _ i _ => p.length - (intOf i).toNat)
        case atStart => exact ⟨0, by omega, rfl, Lib.hid (OwnR.nil _ _ _ _), Lib.hid (fun j h => by omega), Lib.hid (Below.refl _ _)⟩
        case round =>
          obtain ⟨k, hk, rfl, HO, HE, HB⟩ := hrel
          by_cases hlt : k < p.length
          · obtain ⟨b, off, x, rfl, hb, HV, q, d0, d1, d2⟩ := parts_get (HI2.out.below HB.out) hlt
            have HBx := Lib.hid (HB.out.alloc HB.out.size (.cells (partC x) 113))
            have HOx := Lib.hid (HO.out.alloc (.cells (partC x) 113))
            have HGr := Lib.hid (HG2.out.below HB.out HG2.out.lt)
            have g0 : wr.cell? ⟨gb, 0, none⟩ = some (.string t.sm) := HGr.out.cell 0
            have g1 : wr.cell? ⟨gb, 1, none⟩ = some (.string t.sn) := HGr.out.cell 1
            have hgl := HGr.out.lt
            have HTr := Lib.hid (HT2.out.below HB.out HT2.out.lt)
            have tc := HTr.out.cell
            have htl := HTr.out.lt
            have E1 : ∀ ww, (Op.equalIn 10000 26 (.agg #[.string x.am, .string x.an]) (.agg #[.string t.sm, .string t.sn])).run Try.prog ww = .ok (NM.aeq x.am x.an t.sm t.sn) ww := fun ww => acc_in _ _ _ _ ww
            have ga := acc_guard
            cases hq : NM.aeq x.am x.an t.sm t.sn
            · have HE2 : Hid (∀ j, j < k + 1 → NM.aeq (GM.pAt p j).am (GM.pAt p j).an t.sm t.sn = false) := Lib.hid (fun j hj => by
                rcases Nat.lt_or_ge j k with g | g
                · exact HE.out j g
                · obtain rfl : j = k := by omega
                  rw [HV.out]; exact hq)
              rw [hq] at E1
              have C4 := Lib.hid (fun ww => C3.out x (first + (k : Int)) ww)
              have HN : Hid ((GM.taken t true p first (k + 1)).map trdV = (GM.taken t true p first k).map trdV ++ [trdV (GM.takenT t true x (first + (k : Int)))]) := Lib.hid (by rw [GM.taken_succ, HV.out, List.map_append]; rfl)
              have HZ : Hid (((GM.taken t true p first k).map trdV).length ≤ 1024) := Lib.hid (by rw [List.length_map, GM.taken_len]; have := HPL.out; omega)
              have hf2 : first + (k : Int) ≤ 1152921504606846976 := by omega
              generalize GM.takenT t true x (first + (k : Int)) = y at *
              clear hq HV q HE
              go_wp2_with fail
              refine (C4.out _).mono ?_
              clear tc
              rintro e w5 ⟨rfl, b5⟩
              have HB5 := Lib.hid (HBx.out.trans (b5.mono HBx.out.size))
              have HO5 := Lib.hid (HOx.out.below b5)
              have HS5 := Lib.hid (HB2.out.trans (HB5.out.mono HB2.out.size))
              clear b5 HOx
              go_wp2_with (at_builtin; go_loud (refine wpList_pushR _ [.int .i64 y.id, .int .i64 y.day, .int .i64 y.time, .string y.ser.prod, .int .i64 y.ser.kind, .int .i64 y.ser.expiry, .int .i64 y.ser.strike, .int .i64 y.qty, .int .i64 y.price, .string y.bm, .string y.bn, .string y.sm, .string y.sn] (trdV_one [y] (trdV y) (by simp)) w2.heap.size ((GM.taken t true p first k).map trdV) _ _ 48 45 13 144 _ Try.underlying48 info_trd rfl (by decide) rfl rfl rfl _ rfl rfl HO5.out ?c1 ?c2 HB5.out.size ?_))
              case c1 => have := HZ.out; omega
              case c2 => have := HZ.out; simp only [maxLen]; omega
              intro v6 w6 o6 b6 _ _
              have HO6 : Hid (OwnR w6 w2.heap.size 45 13 v6 ((GM.taken t true p first (k + 1)).map trdV)) := Lib.hid (by rw [HN.out]; exact o6)
              have HB6 := Lib.hid (HB5.out.trans b6)
              clear o6 b6 HO5 HZ HN
              go_wp2_with fail
              go_roundw
              case rel => exact ⟨k + 1, by omega, by go_num, HO6, HE2, HB6⟩
              case measure => simp [intOf]; omega
            · have HR := Lib.hid (KB.out k hlt (by rw [HV.out]; exact hq))
              have HS5 := Lib.hid (HB2.out.trans (HBx.out.mono HB2.out.size))
              rw [hq] at E1
              clear hq HV q HE tc
              go_wp2_with fail
              go_ret2
              exact ⟨_, by rw [HR.out.1] <;> rfl, by rw [HR.out.2]; exact OwnR.nil _ _ _ _, HS5.out⟩
          · obtain rfl : k = p.length := by omega
            have HR := Lib.hid (KO.out HE.out)
            have HS5 := Lib.hid (HB2.out.trans (HB.out.mono HB2.out.size))
            go_wp2_with fail
            go_ret2
            exact ⟨_, by rw [HR.out.1] <;> rfl, by rw [HR.out.2]; exact HO.out.lower HB2.out.size, HS5.out⟩

    · have hwi : (decide (1 ≤ first) && decide (first ≤ 1152921504606846976 - ((p.length : Int) - 1))) = false := by
        cases h : (decide (1 ≤ first) && decide (first ≤ 1152921504606846976 - ((p.length : Int) - 1)))
        · rfl
        · simp at h; exact absurd h hr
      have hpl := (GM.parts_inv hp).1.2
      have e : GM.divE t b p first = 2 := by unfold GM.divE; rw [if_pos hp, if_neg hr]
      have e2 : GM.divL t b p first = [] := by unfold GM.divL; rw [e]; rfl
      rw [e, e2]
      rw [hwi] at C2
      rw [hp] at C1
      clear e e2 hp hwi hr hf
      go_enter Try.func17, Try.ntmps17
      go_wp2_with fail
      refine (C1.out _ HI0.out).mono ?_
      rintro e w1 ⟨rfl, b1⟩
      have HB1 := Lib.hid (HB0.out.trans (b1.mono HB0.out.size))
      clear b1
      go_wp2_with fail
      refine (C2.out _).mono ?_
      rintro e w2 ⟨rfl, rfl⟩
      go_wp2_with fail
      go_ret2
      exact ⟨_, rfl, OwnR.nil _ _ _ _, HB1.out⟩
  · have e : GM.divE t b p first = GM.partsE t.qty p := by unfold GM.divE; rw [if_neg hp]
    have e2 : GM.divL t b p first = [] := by unfold GM.divL; rw [e, if_neg hp]
    have hne : (GM.partsE t.qty p != 0) = true := by simpa using hp
    rw [e, e2]
    generalize GM.partsE t.qty p = r at *
    clear e e2 hp hf
    go_enter Try.func17, Try.ntmps17
    go_wp2_with fail
    refine (C1.out _ HI0.out).mono ?_
    rintro e w1 ⟨rfl, b1⟩
    have HB1 := Lib.hid (HB0.out.trans (b1.mono HB0.out.size))
    clear b1
    go_wp2_with fail
    go_ret2
    exact ⟨_, rfl, OwnR.nil _ _ _ _, HB1.out⟩
end Go.Proofs.Ythippdmfeeopkaa

/- Contracts of layer 14: the reference's Divide. -/
namespace Go.Proofs.Ythippdmfeeopkaa
open Go.RowKit Go.Recs
set_option linter.unusedVariables false
set_option linter.unusedSimpArgs false
set_option maxHeartbeats 4000000 in
set_option maxRecDepth 100000 in
theorem rdivide14_any (t : TM.Trd) (b : Bool) (A : Option Addr) (p : List GM.Part) (n cap : Nat) (hn : n = p.length) (first : Int) (w : World) (hI : Parts w A p) (hf : i64 first) :
    Calls Try.prog 18 #[trdA t, .bool b, .slice A n cap, .int .i64 first] w fun e w' => ∃ v, e = .returned (.tuple #[v, .int .i64 (GM.divE t b p first)]) ∧ OwnR w' w.heap.size 45 13 v ((GM.divL t b p first).map trdV) ∧ Below w.heap.size w w' := by
  subst hn
  have hlen := hI.len
  have HB0 := Lib.hid (below_al (Below.refl w.heap.size w) (.cells (trdC t) 45))
  have HT0 := Lib.hid (CB.new w 45 (trdC t))
  have HI0 := Lib.hid (hI.below HB0.out)
  have C1 := Lib.hid (fun ww h => rcheck14_any t A p p.length cap rfl ww h)
  clear hI
  by_cases hp : GM.partsE t.qty p = 0
  · have hpl := (GM.parts_inv hp).1.2
    by_cases h1 : first < 1
    · have e : GM.divE t b p first = 2 := by unfold GM.divE; rw [if_pos hp, if_neg (by omega)]
      have e2 : GM.divL t b p first = [] := by unfold GM.divL; rw [e]; rfl
      rw [e, e2]
      rw [hp] at C1
      clear e e2 hp hf
      go_enter Try.func18, Try.ntmps18
      go_wp2_with fail
      refine (C1.out _ HI0.out).mono ?_
      rintro e w1 ⟨rfl, b1⟩
      have HB1 := Lib.hid (HB0.out.trans (b1.mono HB0.out.size))
      clear b1
      go_wp2_with fail
      go_ret2
      exact ⟨_, rfl, OwnR.nil _ _ _ _, HB1.out⟩
    by_cases h2 : 1152921504606846976 - (p.length : Int) + 1 < first
    · have e : GM.divE t b p first = 2 := by unfold GM.divE; rw [if_pos hp, if_neg (by omega)]
      have e2 : GM.divL t b p first = [] := by unfold GM.divL; rw [e]; rfl
      rw [e, e2]
      rw [hp] at C1
      clear e e2 hp hf
      go_enter Try.func18, Try.ntmps18
      go_wp2_with fail
      refine (C1.out _ HI0.out).mono ?_
      rintro e w1 ⟨rfl, b1⟩
      have HB1 := Lib.hid (HB0.out.trans (b1.mono HB0.out.size))
      clear b1
      go_wp2_with fail
      go_ret2
      exact ⟨_, rfl, OwnR.nil _ _ _ _, HB1.out⟩
    have HR2 : 1 ≤ first ∧ first ≤ 1152921504606846976 - ((p.length : Int) - 1) := by omega
    have KB : Hid (∀ k, k < p.length → NM.aeq (GM.pAt p k).am (GM.pAt p k).an (GM.otherOf t b).1 (GM.otherOf t b).2 = true → GM.divE t b p first = 21 ∧ GM.divL t b p first = []) := Lib.hid (fun k h hx => by
      have e : GM.divE t b p first = 21 := by unfold GM.divE; rw [if_pos hp, if_pos HR2, if_pos (GM.clash_bad (b := b) h hx)]
      exact ⟨e, by unfold GM.divL; rw [e]; rfl⟩)
    have KO : Hid ((∀ j, j < p.length → NM.aeq (GM.pAt p j).am (GM.pAt p j).an (GM.otherOf t b).1 (GM.otherOf t b).2 = false) → GM.divE t b p first = 0 ∧ GM.divL t b p first = GM.taken t b p first p.length) := Lib.hid (fun h => by
      have e : GM.divE t b p first = 0 := by unfold GM.divE; rw [if_pos hp, if_pos HR2, if_neg (by rw [GM.clash_ok (b := b) h]; simp)]
      exact ⟨e, by unfold GM.divL; rw [if_pos e]⟩)
    rw [hp] at C1
    generalize GM.divE t b p first = de at *
    generalize GM.divL t b p first = dl at *
    clear hp hf HR2
    cases b
    · go_enter Try.func18, Try.ntmps18
      go_wp2_with fail
      generalize w.alloc (.cells #[.int .i64 t.id, .int .i64 t.day, .int .i64 t.time, .string t.ser.prod, .int .i64 t.ser.kind, .int .i64 t.ser.expiry, .int .i64 t.ser.strike, .int .i64 t.qty, .int .i64 t.price, .string t.bm, .string t.bn, .string t.sm, .string t.sn] 45) = w0 at *
      refine (C1.out _ HI0.out).mono ?_
      rintro e w1 ⟨rfl, b1⟩
      have HB1 := Lib.hid (HB0.out.trans (b1.mono HB0.out.size))
      have HI1 := Lib.hid (HI0.out.below b1)
      have HT1 := Lib.hid (HT0.out.below b1 HT0.out.lt)
      clear b1 HB0 HI0 HT0 C1
      go_wp2_with fail
      go_loopw [11, 12, 13] (fun v i _ wr => ∃ k : Nat, k ≤ p.length ∧ i = .int .i64 (k : Int) ∧ Hid (OwnR wr w1.heap.size 45 13 v ((GM.taken t false p first k).map trdV)) ∧ Hid (∀ j, j < k → NM.aeq (GM.pAt p j).am (GM.pAt p j).an t.bm t.bn = false) ∧ Hid (Below w1.heap.size w1 wr)) (fun _ i _ _ => p.length - (intOf i).toNat)
      case atStart => exact ⟨0, by omega, rfl, Lib.hid (OwnR.nil _ _ _ _), Lib.hid (fun j h => by omega), Lib.hid (Below.refl _ _)⟩
      case round =>
        obtain ⟨k, hk, rfl, HO, HE, HB⟩ := hrel
        by_cases hlt : k < p.length
        · obtain ⟨b, off, x, rfl, hb, HV, q, d0, d1, d2⟩ := parts_get (HI1.out.below HB.out) hlt
          have HTr := Lib.hid (HT1.out.below HB.out HT1.out.lt)
          have tc := HTr.out.cell
          have htl := HTr.out.lt
          have E1 : ∀ ww, (Op.equalIn 10000 26 (.agg #[.string x.am, .string x.an]) (.agg #[.string t.bm, .string t.bn])).run Try.prog ww = .ok (NM.aeq x.am x.an t.bm t.bn) ww := fun ww => acc_in _ _ _ _ ww
          have ga := acc_guard
          have HBx := Lib.hid (HB.out.alloc HB.out.size (.cells (trdC (GM.takenT t false x (first + (k : Int)))) 45))
          have HOx := Lib.hid (HO.out.alloc (.cells (trdC (GM.takenT t false x (first + (k : Int)))) 45))
          rw [taken_no] at HBx HOx
          have hf2 : first + (k : Int) ≤ 1152921504606846976 := by omega
          cases hq : NM.aeq x.am x.an t.bm t.bn
          · have HE2 : Hid (∀ j, j < k + 1 → NM.aeq (GM.pAt p j).am (GM.pAt p j).an t.bm t.bn = false) := Lib.hid (fun j hj => by
              rcases Nat.lt_or_ge j k with g | g
              · exact HE.out j g
              · obtain rfl : j = k := by omega
                rw [HV.out]; exact hq)
            have HN : Hid ((GM.taken t false p first (k + 1)).map trdV = (GM.taken t false p first k).map trdV ++ [trdV { t with id := first + (k : Int), qty := x.qty, sm := x.am, sn := x.an }]) := Lib.hid (by rw [GM.taken_succ, HV.out, List.map_append]; rfl)
            have HZ : Hid (((GM.taken t false p first k).map trdV).length ≤ 1024) := Lib.hid (by rw [List.length_map, GM.taken_len]; omega)
            have hsz : (wr.alloc (.cells (trdC { t with id := first + (k : Int), qty := x.qty, sm := x.am, sn := x.an }) 45)).heap.size = wr.heap.size + 1 := by simp
            rw [hq] at E1
            clear hq HV q HE
            go_wp2_with (at_builtin; go_loud (refine wpList_pushR _ (trdV { t with id := first + (k : Int), qty := x.qty, sm := x.am, sn := x.an }) (trdV_one [{ t with id := first + (k : Int), qty := x.qty, sm := x.am, sn := x.an }] _ (by simp)) w1.heap.size ((GM.taken t false p first k).map trdV) _ _ 48 45 13 144 _ Try.underlying48 info_trd rfl (by decide) rfl rfl rfl _ (by rfl) (by first | rfl | exact (congrArg (fun z => Value.slice (some ⟨z, 0, none⟩) 1 1) hsz.symm)) HOx.out ?c1 ?c2 HBx.out.size ?_))
            case c1 => have := HZ.out; omega
            case c2 => have := HZ.out; simp only [maxLen]; omega
            intro v6 w6 o6 b6 _ _
            have HO6 : Hid (OwnR w6 w1.heap.size 45 13 v6 ((GM.taken t false p first (k + 1)).map trdV)) := Lib.hid (by rw [HN.out]; exact o6)
            have HB6 := Lib.hid (HBx.out.trans b6)
            clear o6 b6 HOx HZ HN hsz
            go_wp2_with fail
            go_roundw
            case rel => exact ⟨k + 1, by omega, by go_num, HO6, HE2, HB6⟩
            case measure => simp [intOf]; omega
          · have HR := Lib.hid (KB.out k hlt (by rw [HV.out]; exact hq))
            have HS5 := Lib.hid (HB1.out.trans (HBx.out.mono HB1.out.size))
            rw [hq] at E1
            clear hq HV q HE
            go_wp2_with fail
            go_ret2
            exact ⟨_, by rw [HR.out.1] <;> rfl, by rw [HR.out.2]; exact OwnR.nil _ _ _ _, HS5.out⟩
        · obtain rfl : k = p.length := by omega
          have HR := Lib.hid (KO.out HE.out)
          have HS5 := Lib.hid (HB1.out.trans (HB.out.mono HB1.out.size))
          go_wp2_with fail
          go_ret2
          exact ⟨_, by rw [HR.out.1] <;> rfl, by rw [HR.out.2]; exact HO.out.lower HB1.out.size, HS5.out⟩
    · go_enter Try.func18, Try.ntmps18
      go_wp2_with fail
      generalize w.alloc (.cells #[.int .i64 t.id, .int .i64 t.day, .int .i64 t.time, .string t.ser.prod, .int .i64 t.ser.kind, .int .i64 t.ser.expiry, .int .i64 t.ser.strike, .int .i64 t.qty, .int .i64 t.price, .string t.bm, .string t.bn, .string t.sm, .string t.sn] 45) = w0 at *
      refine (C1.out _ HI0.out).mono ?_
      rintro e w1 ⟨rfl, b1⟩
      have HB1 := Lib.hid (HB0.out.trans (b1.mono HB0.out.size))
      have HI1 := Lib.hid (HI0.out.below b1)
      have HT1 := Lib.hid (HT0.out.below b1 HT0.out.lt)
      clear b1 HB0 HI0 HT0 C1
      go_wp2_with fail
      go_loopw [11, 12, 13] (fun v i _ wr => ∃ k : Nat, k ≤ p.length ∧ i = .int .i64 (k : Int) ∧ Hid (OwnR wr w1.heap.size 45 13 v ((GM.taken t true p first k).map trdV)) ∧ Hid (∀ j, j < k → NM.aeq (GM.pAt p j).am (GM.pAt p j).an t.sm t.sn = false) ∧ Hid (Below w1.heap.size w1 wr)) (fun _ i _ _ => p.length - (intOf i).toNat)
      case atStart => exact ⟨0, by omega, rfl, Lib.hid (OwnR.nil _ _ _ _), Lib.hid (fun j h => by omega), Lib.hid (Below.refl _ _)⟩
      case round =>
        obtain ⟨k, hk, rfl, HO, HE, HB⟩ := hrel
        by_cases hlt : k < p.length
        · obtain ⟨b, off, x, rfl, hb, HV, q, d0, d1, d2⟩ := parts_get (HI1.out.below HB.out) hlt
          have HTr := Lib.hid (HT1.out.below HB.out HT1.out.lt)
          have tc := HTr.out.cell
          have htl := HTr.out.lt
          have E1 : ∀ ww, (Op.equalIn 10000 26 (.agg #[.string x.am, .string x.an]) (.agg #[.string t.sm, .string t.sn])).run Try.prog ww = .ok (NM.aeq x.am x.an t.sm t.sn) ww := fun ww => acc_in _ _ _ _ ww
          have ga := acc_guard
          have HBx := Lib.hid (HB.out.alloc HB.out.size (.cells (trdC (GM.takenT t true x (first + (k : Int)))) 45))
          have HOx := Lib.hid (HO.out.alloc (.cells (trdC (GM.takenT t true x (first + (k : Int)))) 45))
          rw [taken_yes] at HBx HOx
          have hf2 : first + (k : Int) ≤ 1152921504606846976 := by omega
          cases hq : NM.aeq x.am x.an t.sm t.sn
          · have HE2 : Hid (∀ j, j < k + 1 → NM.aeq (GM.pAt p j).am (GM.pAt p j).an t.sm t.sn = false) := Lib.hid (fun j hj => by
              rcases Nat.lt_or_ge j k with g | g
              · exact HE.out j g
              · obtain rfl : j = k := by omega
                rw [HV.out]; exact hq)
            have HN : Hid ((GM.taken t true p first (k + 1)).map trdV = (GM.taken t true p first k).map trdV ++ [trdV { t with id := first + (k : Int), qty := x.qty, bm := x.am, bn := x.an }]) := Lib.hid (by rw [GM.taken_succ, HV.out, List.map_append]; rfl)
            have HZ : Hid (((GM.taken t true p first k).map trdV).length ≤ 1024) := Lib.hid (by rw [List.length_map, GM.taken_len]; omega)
            have hsz : (wr.alloc (.cells (trdC { t with id := first + (k : Int), qty := x.qty, bm := x.am, bn := x.an }) 45)).heap.size = wr.heap.size + 1 := by simp
            rw [hq] at E1
            clear hq HV q HE
            go_wp2_with (at_builtin; go_loud (refine wpList_pushR _ (trdV { t with id := first + (k : Int), qty := x.qty, bm := x.am, bn := x.an }) (trdV_one [{ t with id := first + (k : Int), qty := x.qty, bm := x.am, bn := x.an }] _ (by simp)) w1.heap.size ((GM.taken t true p first k).map trdV) _ _ 48 45 13 144 _ Try.underlying48 info_trd rfl (by decide) rfl rfl rfl _ (by rfl) (by first | rfl | exact (congrArg (fun z => Value.slice (some ⟨z, 0, none⟩) 1 1) hsz.symm)) HOx.out ?c1 ?c2 HBx.out.size ?_))
            case c1 => have := HZ.out; omega
            case c2 => have := HZ.out; simp only [maxLen]; omega
            intro v6 w6 o6 b6 _ _
            have HO6 : Hid (OwnR w6 w1.heap.size 45 13 v6 ((GM.taken t true p first (k + 1)).map trdV)) := Lib.hid (by rw [HN.out]; exact o6)
            have HB6 := Lib.hid (HBx.out.trans b6)
            clear o6 b6 HOx HZ HN hsz
            go_wp2_with fail
            go_roundw
            case rel => exact ⟨k + 1, by omega, by go_num, HO6, HE2, HB6⟩
            case measure => simp [intOf]; omega
          · have HR := Lib.hid (KB.out k hlt (by rw [HV.out]; exact hq))
            have HS5 := Lib.hid (HB1.out.trans (HBx.out.mono HB1.out.size))
            rw [hq] at E1
            clear hq HV q HE
            go_wp2_with fail
            go_ret2
            exact ⟨_, by rw [HR.out.1] <;> rfl, by rw [HR.out.2]; exact OwnR.nil _ _ _ _, HS5.out⟩
        · obtain rfl : k = p.length := by omega
          have HR := Lib.hid (KO.out HE.out)
          have HS5 := Lib.hid (HB1.out.trans (HB.out.mono HB1.out.size))
          go_wp2_with fail
          go_ret2
          exact ⟨_, by rw [HR.out.1] <;> rfl, by rw [HR.out.2]; exact HO.out.lower HB1.out.size, HS5.out⟩
  · have e : GM.divE t b p first = GM.partsE t.qty p := by unfold GM.divE; rw [if_neg hp]
    have e2 : GM.divL t b p first = [] := by unfold GM.divL; rw [e, if_neg hp]
    have hne : (GM.partsE t.qty p != 0) = true := by simpa using hp
    rw [e, e2]
    generalize GM.partsE t.qty p = r at *
    clear e e2 hp hf
    go_enter Try.func18, Try.ntmps18
    go_wp2_with fail
    refine (C1.out _ HI0.out).mono ?_
    rintro e w1 ⟨rfl, b1⟩
    have HB1 := Lib.hid (HB0.out.trans (b1.mono HB0.out.size))
    clear b1
    go_wp2_with fail
    go_ret2
    exact ⟨_, rfl, OwnR.nil _ _ _ _, HB1.out⟩
end Go.Proofs.Ythippdmfeeopkaa

namespace Go.Proofs.Ythippdmfeeopkaa.giveupDivides
open Go.RowKit Go.Recs
set_option linter.unusedVariables false
set_option linter.unusedSimpArgs false
theorem below_drawn {B : Nat} {a w w' : World} (h : Below B a w) (hw : ∃ k, w' = w.drewN k) : Below B a w' := by
  obtain ⟨k, rfl⟩ := hw
  exact below_drewN h k
set_option maxHeartbeats 4000000 in
set_option maxRecDepth 100000 in
theorem walk (t : TM.Trd) (B : Option Addr) (cp : Nat) (p : List GM.Part) (x y : Int) (w : World) (ht : trdQ t) (hP : Parts w B p ∧ p.length ≤ cp) (hxy : (-9223372036854775808 ≤ x ∧ x ≤ 9223372036854775807) ∧ -9223372036854775808 ≤ y ∧ y ≤ 9223372036854775807) :
    Calls Try.prog 4 #[trdA t, .slice B p.length cp, .agg #[.int .i64 x, .int .i64 y]] w fun e w' => e = .returned (.bool true) ∧ Below w.heap.size w w' := by
  have hlenp := hP.1.len
  have hy : i64 y := hxy.2
  have hx1 := hxy.1.1; have hx2 := hxy.1.2; have hy1 := hxy.2.1; have hy2 := hxy.2.2
  have CG := Lib.hid (fun ww => goes14_any ww)
  have HB0 := Lib.hid (below_al (below_al (Below.refl w.heap.size w) (.cells #[.int .i64 t.id, .int .i64 t.day, .int .i64 t.time, .string t.ser.prod, .int .i64 t.ser.kind, .int .i64 t.ser.expiry, .int .i64 t.ser.strike, .int .i64 t.qty, .int .i64 t.price, .string t.bm, .string t.bn, .string t.sm, .string t.sn] 45)) (.cells #[.int .i64 x, .int .i64 y] 47))
  have HP := Lib.hid (hP.1.below HB0.out)
  have HT0 : Hid (CB ((w.alloc (.cells #[.int .i64 t.id, .int .i64 t.day, .int .i64 t.time, .string t.ser.prod, .int .i64 t.ser.kind, .int .i64 t.ser.expiry, .int .i64 t.ser.strike, .int .i64 t.qty, .int .i64 t.price, .string t.bm, .string t.bn, .string t.sm, .string t.sn] 45)).alloc (.cells #[.int .i64 x, .int .i64 y] 47)) w.heap.size 45 (trdC t)) := Lib.hid ((CB.new w 45 (trdC t)).alloc _)
  have HA0 : Hid (CB ((w.alloc (.cells #[.int .i64 t.id, .int .i64 t.day, .int .i64 t.time, .string t.ser.prod, .int .i64 t.ser.kind, .int .i64 t.ser.expiry, .int .i64 t.ser.strike, .int .i64 t.qty, .int .i64 t.price, .string t.bm, .string t.bn, .string t.sm, .string t.sn] 45)).alloc (.cells #[.int .i64 x, .int .i64 y] 47)) (w.heap.size + 1) 47 #[.int .i64 x, .int .i64 y]) := Lib.hid (CB.new1 _ _ _ _)
  clear hP hxy
  by_cases hbig : 1100 < p.length
  · have h1 : (1100 : Int) < (p.length : Int) := by omega
    clear hbig ht hy
    go_enter Try.func4, Try.ntmps4
    go_wp2_with fail
    refine (CG.out _).mono ?_
    rintro e w1 ⟨rfl, b1⟩
    have HB1 := Lib.hid (HB0.out.trans (b1.mono HB0.out.size))
    clear b1
    go_wp2_with fail
    go_ret
    exact ⟨rfl, HB1.out⟩
  have h1 : ¬ (1100 : Int) < (p.length : Int) := by omega
  clear hbig
  generalize hb : (x.tmod 2 == 0) = bb
  have C1 := Lib.hid (fun ww h => gdivide_any t bb B p p.length cp rfl y ww h hy)
  have C2 := Lib.hid (fun ww h => rdivide14_any t bb B p p.length cp rfl y ww h hy)
  have C3 := Lib.hid (fun A c D d n m (hn : n = (GM.divL t bb p y).length) (hm : m = (GM.divL t bb p y).length) ww h1 h2 => rsame14_any A D (GM.divL t bb p y) n c m d hn hm ww h1 h2)
  have C4 := Lib.hid (fun ww h => gcheck_any t B p p.length cp rfl ww h)
  have C5 := Lib.hid (fun ww h => rcheck14_any t B p p.length cp rfl ww h)
  have HLQ : Hid (∀ u ∈ GM.divL t bb p y, trdQ u) := Lib.hid (fun u hu => by
    by_cases he : GM.divE t bb p y = 0
    · have hp : GM.partsE t.qty p = 0 := by
        by_cases h : GM.partsE t.qty p = 0
        · exact h
        · unfold GM.divE at he; rw [if_neg h] at he; exact absurd he h
      have hr : 1 ≤ y ∧ y ≤ 1152921504606846976 - ((p.length : Int) - 1) := by
        by_cases h : 1 ≤ y ∧ y ≤ 1152921504606846976 - ((p.length : Int) - 1)
        · exact h
        · unfold GM.divE at he; rw [if_pos hp, if_neg h] at he; cases he
      have e2 : GM.divL t bb p y = GM.taken t bb p y p.length := by unfold GM.divL; rw [if_pos he]
      rw [e2] at hu
      obtain ⟨⟨n1, n2⟩, hq, hs⟩ := GM.parts_inv hp
      obtain ⟨i, hi, rfl⟩ := List.mem_map.1 hu
      have hi2 := List.mem_range.1 hi
      have hx : partQ (GM.pAt p i) := by rw [GM.pAt_get hi2]; exact HP.out.2 _ (List.getElem_mem hi2)
      obtain ⟨z1, z2, z3⟩ := hx
      obtain ⟨u1, u2, u3, u4, u5, u6, u7, u8, u9, u10⟩ := ht
      cases bb
      · rw [taken_no]
        exact ⟨⟨by show -9223372036854775808 ≤ y + (i : Int); omega, by show y + (i : Int) ≤ 9223372036854775807; omega⟩, u2, u3, u4, z3, u6, u7, u8, z1, z2⟩
      · rw [taken_yes]
        exact ⟨⟨by show -9223372036854775808 ≤ y + (i : Int); omega, by show y + (i : Int) ≤ 9223372036854775807; omega⟩, u2, u3, u4, z3, u6, z1, z2, u9, u10⟩
    · have e1 : GM.divL t bb p y = [] := by unfold GM.divL; rw [if_neg he]
      rw [e1] at hu
      cases hu)
  generalize GM.divE t bb p y = de at *
  generalize GM.divL t bb p y = L at *
  generalize GM.partsE t.qty p = pe at *
  clear ht hy
  go_enter Try.func4, Try.ntmps4
  go_wp2_with fail
  generalize (w.alloc (.cells #[.int .i64 t.id, .int .i64 t.day, .int .i64 t.time, .string t.ser.prod, .int .i64 t.ser.kind, .int .i64 t.ser.expiry, .int .i64 t.ser.strike, .int .i64 t.qty, .int .i64 t.price, .string t.bm, .string t.bn, .string t.sm, .string t.sn] 45)).alloc (.cells #[.int .i64 x, .int .i64 y] 47) = w0 at *
  refine (C1.out _ HP.out).mono ?_
  rintro e w1 ⟨v1, rfl, o1, b1⟩
  obtain ⟨A1, c1, rfl, hR1, hc1⟩ := o1.recs
  have HL1 : Hid (Trds w1 A1 L) := Lib.hid ⟨hR1, HLQ.out⟩
  have HB1 := Lib.hid (HB0.out.trans (b1.mono HB0.out.size))
  have HP1 := Lib.hid (HP.out.below b1)
  have HT1 := Lib.hid (HT0.out.below b1 HT0.out.lt)
  have HA1 := Lib.hid (HA0.out.below b1 HA0.out.lt)
  clear b1 o1 hR1 hc1 HB0 HP HT0 HA0 C1
  have tc := HT1.out.cell
  have htl1 := HT1.out.lt
  have g1 : w1.cell? ⟨w.heap.size + 1, 1, none⟩ = some (.int .i64 y) := HA1.out.cell 1
  have hal := HA1.out.lt
  go_wp2_with fail
  refine (C2.out _ HP1.out).mono ?_
  rintro e w2 ⟨v2, rfl, o2, b2⟩
  obtain ⟨A2, c2, rfl, hR2, hc2⟩ := o2.recs
  have HL2 : Hid (Trds w2 A2 L) := Lib.hid ⟨hR2, HLQ.out⟩
  have HL3 := Lib.hid (HL1.out.below b2)
  have HB2 := Lib.hid (HB1.out.trans (b2.mono HB1.out.size))
  have HP2 := Lib.hid (HP1.out.below b2)
  have HT2 := Lib.hid (HT1.out.below b2 HT1.out.lt)
  clear b2 o2 hR2 hc2 HB1 HP1 HT1 HA1 HL1 C2 tc htl1 g1 hal HLQ
  have htl := HT2.out.lt
  have HSF : Hid (∀ ww, Below w2.heap.size w2 ww → ww.cell? ⟨w.heap.size, 0, none⟩ = some (.int .i64 t.id) ∧ ww.cell? ⟨w.heap.size, 1, none⟩ = some (.int .i64 t.day) ∧ ww.cell? ⟨w.heap.size, 2, none⟩ = some (.int .i64 t.time) ∧ ww.cell? ⟨w.heap.size, 3, none⟩ = some (.string t.ser.prod) ∧ ww.cell? ⟨w.heap.size, 4, none⟩ = some (.int .i64 t.ser.kind) ∧ ww.cell? ⟨w.heap.size, 5, none⟩ = some (.int .i64 t.ser.expiry) ∧ ww.cell? ⟨w.heap.size, 6, none⟩ = some (.int .i64 t.ser.strike) ∧ ww.cell? ⟨w.heap.size, 7, none⟩ = some (.int .i64 t.qty) ∧ ww.cell? ⟨w.heap.size, 8, none⟩ = some (.int .i64 t.price) ∧ ww.cell? ⟨w.heap.size, 9, none⟩ = some (.string t.bm) ∧ ww.cell? ⟨w.heap.size, 10, none⟩ = some (.string t.bn) ∧ ww.cell? ⟨w.heap.size, 11, none⟩ = some (.string t.sm) ∧ ww.cell? ⟨w.heap.size, 12, none⟩ = some (.string t.sn)) := Lib.hid (fun ww h => ⟨(HT2.out.below h htl).cell 0, (HT2.out.below h htl).cell 1, (HT2.out.below h htl).cell 2, (HT2.out.below h htl).cell 3, (HT2.out.below h htl).cell 4, (HT2.out.below h htl).cell 5, (HT2.out.below h htl).cell 6, (HT2.out.below h htl).cell 7, (HT2.out.below h htl).cell 8, (HT2.out.below h htl).cell 9, (HT2.out.below h htl).cell 10, (HT2.out.below h htl).cell 11, (HT2.out.below h htl).cell 12⟩)
  have HBw : Hid (Below w2.heap.size w2 w2.drew) := Lib.hid (Below.refl _ _).drew
  go_wp2_with fail
  go_region_held3 (fun ww => ww.cell? ⟨w.heap.size, 0, none⟩ = some (.int .i64 t.id) ∧ ww.cell? ⟨w.heap.size, 1, none⟩ = some (.int .i64 t.day) ∧ ww.cell? ⟨w.heap.size, 2, none⟩ = some (.int .i64 t.time) ∧ ww.cell? ⟨w.heap.size, 3, none⟩ = some (.string t.ser.prod) ∧ ww.cell? ⟨w.heap.size, 4, none⟩ = some (.int .i64 t.ser.kind) ∧ ww.cell? ⟨w.heap.size, 5, none⟩ = some (.int .i64 t.ser.expiry) ∧ ww.cell? ⟨w.heap.size, 6, none⟩ = some (.int .i64 t.ser.strike) ∧ ww.cell? ⟨w.heap.size, 7, none⟩ = some (.int .i64 t.qty) ∧ ww.cell? ⟨w.heap.size, 8, none⟩ = some (.int .i64 t.price) ∧ ww.cell? ⟨w.heap.size, 9, none⟩ = some (.string t.bm) ∧ ww.cell? ⟨w.heap.size, 10, none⟩ = some (.string t.bn) ∧ ww.cell? ⟨w.heap.size, 11, none⟩ = some (.string t.sm) ∧ ww.cell? ⟨w.heap.size, 12, none⟩ = some (.string t.sn))
    (with_reducible exact HSF.out _ HBw.out)
    (first
      | (go_at_call 19; refine (C3.out _ _ _ _ _ _ (by simp) (by simp) _ (HL3.out.below HBw.out) (HL2.out.below HBw.out)).mono ?_; rintro e w5 ⟨rfl, hw5⟩; replace HBw := Lib.hid (below_drawn HBw.out hw5); clear hw5)
      | (go_at_call 20; refine (C4.out _ (HP2.out.below HBw.out)).mono ?_; rintro e w5 ⟨rfl, b5⟩; replace HBw := Lib.hid (HBw.out.trans (b5.mono HBw.out.size)); clear b5)
      | (go_at_call 21; refine (C5.out _ (HP2.out.below HBw.out)).mono ?_; rintro e w5 ⟨rfl, b5⟩; replace HBw := Lib.hid (HBw.out.trans (b5.mono HBw.out.size)); clear b5)
      | (go_at_call 16; refine (CG.out _).mono ?_; rintro e w7 ⟨rfl, b7⟩; replace HBw := Lib.hid (HBw.out.trans (b7.mono HBw.out.size)); clear b7))
  all_goals (
    have HBF := Lib.hid (HB2.out.trans (HBw.out.mono HB2.out.size))
    clear HSF HBw
    go_wp2_with fail
    go_ret
    exact ⟨rfl, HBF.out⟩)
end Go.Proofs.Ythippdmfeeopkaa.giveupDivides

/- What the reach says of a text that opens a record, over any program. -/
namespace Go.Recs
open Go.ChangeShapes Go.WideShapes Go.RowKit Go.Deep
set_option linter.unusedVariables false
theorem first_sized {H : Type} {enc : TypeId × Value → H} {P : Program} {W : World} {base : Nat} {spare : Nat → Bool} {held : Bool} {T : TypeId} {cs : Array Value} {d : DataW H} {p : List MemPlace} {fs : Array Field} {f : Field} {s : ByteArray}
    {ts : List TypeId} {ds : List (DataW H)} {j : Nat}
    (h : (DataW.weightsEach P ts ds).all (· ≤ reachBytes) = true) (ht : ts[j]? = some T) (hd : ds[j]? = some d)
    (hT : DataW.Trod enc P W base spare held T (.agg cs) d p) (hu : P.underlying T = some (.struct fs)) (hf : fs[0]? = some f) (ho : f.offset = 0) (hs : P.underlying f.type = some .string) (hc : P.cellsOf f.type = 1) (hcs : cs[0]? = some (.string s)) :
    s.size ≤ 140737488351232 := by
  obtain ⟨fuel, hx⟩ := hT
  obtain ⟨xs, n, _, hxd, _, hxl, hfl⟩ := DataW.trod_struct hu hx
  have h0 := hfl 0 f hf
  have hpos : 0 < xs.length := by
    rw [hxl]
    rcases Nat.eq_zero_or_pos fs.size with e | e
    · rw [Array.getElem?_eq_none (by omega)] at hf; cases hf
    · exact e
  rw [List.getElem?_eq_getElem hpos] at h0
  obtain ⟨t, ht0, hx0, _⟩ := DataW.trod_string hs h0
  rw [ho, hc, List.drop_zero] at ht0
  have ets : t = s := by
    have e1 : (Value.agg cs).cells.toList.take 1 = [Value.string t] := ht0
    have e2 : (Value.agg cs).cells.toList[0]? = some (Value.string s) := by simpa [Value.cells] using hcs
    cases hl : (Value.agg cs).cells.toList with
    | nil => rw [hl] at e2; cases e2
    | cons a r => rw [hl] at e1 e2; simp at e1 e2; rw [e1] at e2; injection e2
  subst ets
  injection hxd with hd1 _
  have hw : t.data.toList.length ∈ d.weights P T := by
    rw [hd1]
    simp only [DataW.weights, hu]
    have hm := DataW.weights_mem_each (P := P) (ts := fs.toList.map (·.type)) (ds := xs.map (·.1)) (j := 0) (t := f.type) (d := xs[0].1) (by rw [List.getElem?_map, Array.getElem?_toList, hf]; rfl) (by rw [List.getElem?_map, List.getElem?_eq_getElem hpos]; rfl) t.data.toList.length
    apply hm
    rw [hx0]
    simp [DataW.weights]
  have := List.all_eq_true.1 h _ (DataW.weights_mem_each ht hd _ hw)
  have e : t.data.toList.length = t.size := Array.length_toList
  rw [e] at this
  have hr : reachBytes = 140737488351232 := by decide
  rw [← hr]
  simpa using this
end Go.Recs

/- A law's arguments: products and series, by value and in slices. -/
namespace Go.Proofs.Ythippdmfeeopkaa
open Go.ChangeShapes Go.WideShapes Go.ChangeAt Go.RowKit Go.Recs
set_option linter.unusedVariables false
set_option maxRecDepth 100000
theorem ser_leafs : leafs Try.prog 2 43 = some serL := by kernel_rfl
theorem open_serV {H : Type} {enc : TypeId × Value → H} {W : World} {base b0 : Nat} {spare : Nat → Bool} {held : Bool} {r : Reach} {v : Value} {d : DataW H} {p : List MemPlace}
    (hv : Value.okWide Try.prog W r b0 43 v) (h : DataW.Trod enc Try.prog W base spare held 43 v d p) :
    ∃ x : EM.Ser, v = .agg #[.string x.prod, .int .i64 x.kind, .int .i64 x.expiry, .int .i64 x.strike] ∧ serQ x := by
  obtain ⟨cs, rfl, hk⟩ := open_rec (n := 2) Try.underlying43 ser_leafs (by kernel_rfl) hv h
  obtain ⟨x, rfl, hq⟩ := ser_row cs hk
  exact ⟨x, rfl, hq⟩
theorem ser_sized {H : Type} {enc : TypeId × Value → H} {W : World} {base : Nat} {spare : Nat → Bool} {held : Bool} {x : EM.Ser} {d : DataW H} {p : List MemPlace} {ts : List TypeId} {ds : List (DataW H)} {j : Nat}
    (h : (DataW.weightsEach Try.prog ts ds).all (· ≤ reachBytes) = true) (ht : ts[j]? = some 43) (hd : ds[j]? = some d)
    (hT : DataW.Trod enc Try.prog W base spare held 43 (.agg #[.string x.prod, .int .i64 x.kind, .int .i64 x.expiry, .int .i64 x.strike]) d p) : x.prod.size ≤ 140737488351232 :=
  first_sized (cs := #[.string x.prod, .int .i64 x.kind, .int .i64 x.expiry, .int .i64 x.strike]) h ht hd hT Try.underlying43 rfl rfl Try.underlying9 (by kernel_rfl) rfl
end Go.Proofs.Ythippdmfeeopkaa

/- A law's arguments: trades, legs, accounts' names, a product with one of its series. -/
namespace Go.Proofs.Ythippdmfeeopkaa
open Go.ChangeShapes Go.WideShapes Go.ChangeAt Go.RowKit Go.Recs
set_option linter.unusedVariables false
set_option maxRecDepth 100000
theorem trd_leafs : leafs Try.prog 3 45 = some trdL := by kernel_rfl
theorem leg_leafs : leafs Try.prog 3 84 = some legL := by kernel_rfl
theorem open_trdT {H : Type} {enc : TypeId × Value → H} {W : World} {base b0 : Nat} {spare : Nat → Bool} {held : Bool} {r : Reach} {v : Value} {d : DataW H} {p : List MemPlace}
    (hv : Value.okWide Try.prog W r b0 48 v) (h : DataW.Trod enc Try.prog W base spare held 48 v d p) :
    ∃ A cap, ∃ l : List TM.Trd, v = .slice A l.length cap ∧ (Trds W A l ∧ l.length ≤ cap) ∧ True := by
  obtain ⟨A, cap, rows, rfl, hR, hk, hc⟩ := open_recs (n := 3) (sz := 13) Try.underlying48 trd_leafs (by kernel_rfl) rfl (by omega) hv h
  obtain ⟨l, rfl, hq⟩ := typed (ls := trdL) trdV _ trd_row rows hk
  rw [List.length_map] at hc ⊢
  exact ⟨A, cap, l, rfl, ⟨⟨hR, hq⟩, hc⟩, trivial⟩
theorem open_trdV {H : Type} {enc : TypeId × Value → H} {W : World} {base b0 : Nat} {spare : Nat → Bool} {held : Bool} {r : Reach} {v : Value} {d : DataW H} {p : List MemPlace}
    (hv : Value.okWide Try.prog W r b0 45 v) (h : DataW.Trod enc Try.prog W base spare held 45 v d p) :
    ∃ t : TM.Trd, v = .agg #[.int .i64 t.id, .int .i64 t.day, .int .i64 t.time, .string t.ser.prod, .int .i64 t.ser.kind, .int .i64 t.ser.expiry, .int .i64 t.ser.strike, .int .i64 t.qty, .int .i64 t.price, .string t.bm, .string t.bn, .string t.sm, .string t.sn] ∧ trdQ t := by
  obtain ⟨cs, rfl, hk⟩ := open_rec (n := 3) Try.underlying45 trd_leafs (by kernel_rfl) hv h
  obtain ⟨x, rfl, hq⟩ := trd_row cs hk
  exact ⟨x, rfl, hq⟩
theorem open_legV {H : Type} {enc : TypeId × Value → H} {W : World} {base b0 : Nat} {spare : Nat → Bool} {held : Bool} {r : Reach} {v : Value} {d : DataW H} {p : List MemPlace}
    (hv : Value.okWide Try.prog W r b0 84 v) (h : DataW.Trod enc Try.prog W base spare held 84 v d p) :
    ∃ x : NM.Leg, v = .agg #[.string x.am, .string x.an, .string x.ser.prod, .int .i64 x.ser.kind, .int .i64 x.ser.expiry, .int .i64 x.ser.strike, .int .i64 x.qty, .int .i64 x.price, .int .i64 x.trade] ∧ legQ x := by
  obtain ⟨cs, rfl, hk⟩ := open_rec (n := 3) Try.underlying84 leg_leafs (by kernel_rfl) hv h
  obtain ⟨x, rfl, hq⟩ := leg_row cs hk
  exact ⟨x, rfl, hq⟩
def kL : List Leaf := [.str, .str]
theorem k_leafs : leafs Try.prog 2 26 = some kL := by kernel_rfl
theorem open_kV {H : Type} {enc : TypeId × Value → H} {W : World} {base b0 : Nat} {spare : Nat → Bool} {held : Bool} {r : Reach} {v : Value} {d : DataW H} {p : List MemPlace}
    (hv : Value.okWide Try.prog W r b0 26 v) (h : DataW.Trod enc Try.prog W base spare held 26 v d p) :
    ∃ x : ByteArray × ByteArray, v = .agg #[.string x.1, .string x.2] ∧ x.1.size ≤ maxLen ∧ x.2.size ≤ maxLen := by
  obtain ⟨cs, rfl, hk⟩ := open_rec (n := 2) Try.underlying26 k_leafs (by kernel_rfl) hv h
  obtain ⟨c0, r0, rfl, ⟨s0, rfl, h0⟩, g0⟩ := okAll_cons hk
  obtain ⟨c1, r1, rfl, ⟨s1, rfl, h1⟩, g1⟩ := okAll_cons g0
  rw [okAll_nil g1]
  exact ⟨(s0, s1), rfl, h0, h1⟩
end Go.Proofs.Ythippdmfeeopkaa

/- A law's arguments: the parts of a division. -/
namespace Go.Proofs.Ythippdmfeeopkaa
open Go.ChangeShapes Go.WideShapes Go.ChangeAt Go.RowKit Go.Recs
set_option linter.unusedVariables false
set_option maxRecDepth 100000
theorem part_leafs : leafs Try.prog 3 113 = some partL := by kernel_rfl
theorem open_partT {H : Type} {enc : TypeId × Value → H} {W : World} {base b0 : Nat} {spare : Nat → Bool} {held : Bool} {r : Reach} {v : Value} {d : DataW H} {p : List MemPlace}
    (hv : Value.okWide Try.prog W r b0 46 v) (h : DataW.Trod enc Try.prog W base spare held 46 v d p) :
    ∃ A cap, ∃ l : List GM.Part, v = .slice A l.length cap ∧ (Parts W A l ∧ l.length ≤ cap) ∧ True := by
  obtain ⟨A, cap, rows, rfl, hR, hk, hc⟩ := open_recs (n := 3) (sz := 3) Try.underlying46 part_leafs (by kernel_rfl) rfl (by omega) hv h
  obtain ⟨l, rfl, hq⟩ := typed (ls := partL) partV _ part_row rows hk
  rw [List.length_map] at hc ⊢
  exact ⟨A, cap, l, rfl, ⟨⟨hR, hq⟩, hc⟩, trivial⟩
end Go.Proofs.Ythippdmfeeopkaa
