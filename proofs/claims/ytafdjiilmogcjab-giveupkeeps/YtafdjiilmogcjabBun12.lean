/- Put together: WGiveupKeeps, SizedRec, OpenProd, OpenNov, OpenGiv. -/
import Derived.Test.YtafdjiilmogcjabBun10
import Derived.Test.YtafdjiilmogcjabBun11
import Derived.Test.YtafdjiilmogcjabBun3
import Derived.SizedLaws
import Derived.ProofKit
import Derived.Test.YtafdjiilmogcjabBun4
import Derived.OpenShut
import Derived.ShutString
import Derived.ChangeOld
import Derived.Test.YtafdjiilmogcjabBun5
import Derived.Test.YtafdjiilmogcjabBun6
namespace Go.Proofs.Ytafdjiilmogcjab.giveupKeeps
open Go.RowKit Go.Recs
set_option linter.unusedVariables false
set_option linter.unusedSimpArgs false
set_option maxHeartbeats 16000000 in
set_option maxRecDepth 100000 in
theorem walk (t : TM.Trd) (B : Option Addr) (cp : Nat) (p : List GM.Part) (x y : Int) (w : World) (ht : trdQ t) (hP : Parts w B p ∧ p.length ≤ cp) (hxy : (-9223372036854775808 ≤ x ∧ x ≤ 9223372036854775807) ∧ -9223372036854775808 ≤ y ∧ y ≤ 9223372036854775807) :
    Calls Try.prog 6 #[trdA t, .slice B p.length cp, .agg #[.int .i64 x, .int .i64 y]] w fun e w' => e = .returned (.bool true) ∧ Below w.heap.size w w' := by
  have hlenp := hP.1.len
  have hy : i64 y := hxy.2
  have hx1 := hxy.1.1; have hx2 := hxy.1.2; have hy1 := hxy.2.1; have hy2 := hxy.2.2
  have CG := Lib.hid (fun ww => goes14_any ww)
  have HB0 := Lib.hid (below_al (below_al (Below.refl w.heap.size w) (.cells #[.int .i64 t.id, .int .i64 t.day, .int .i64 t.time, .string t.ser.prod, .int .i64 t.ser.kind, .int .i64 t.ser.expiry, .int .i64 t.ser.strike, .int .i64 t.qty, .int .i64 t.price, .string t.bm, .string t.bn, .string t.sm, .string t.sn] 27)) (.cells #[.int .i64 x, .int .i64 y] 29))
  have HP := Lib.hid (hP.1.below HB0.out)
  have HT0 : Hid (CB ((w.alloc (.cells #[.int .i64 t.id, .int .i64 t.day, .int .i64 t.time, .string t.ser.prod, .int .i64 t.ser.kind, .int .i64 t.ser.expiry, .int .i64 t.ser.strike, .int .i64 t.qty, .int .i64 t.price, .string t.bm, .string t.bn, .string t.sm, .string t.sn] 27)).alloc (.cells #[.int .i64 x, .int .i64 y] 29)) w.heap.size 27 (trdC t)) := Lib.hid ((CB.new w 27 (trdC t)).alloc _)
  have HA0 : Hid (CB ((w.alloc (.cells #[.int .i64 t.id, .int .i64 t.day, .int .i64 t.time, .string t.ser.prod, .int .i64 t.ser.kind, .int .i64 t.ser.expiry, .int .i64 t.ser.strike, .int .i64 t.qty, .int .i64 t.price, .string t.bm, .string t.bn, .string t.sm, .string t.sn] 27)).alloc (.cells #[.int .i64 x, .int .i64 y] 29)) (w.heap.size + 1) 29 #[.int .i64 x, .int .i64 y]) := Lib.hid (CB.new1 _ _ _ _)
  clear hP hxy
  by_cases hbig : 1100 < p.length
  · have h1 : (1100 : Int) < (p.length : Int) := by omega
    clear hbig ht hy
    go_enter Try.func6, Try.ntmps6
    go_wp2_with fail
    refine (CG.out _).mono ?_
    rintro e w1 ⟨rfl, b1⟩
    have HB1 := Lib.hid (HB0.out.trans (b1.mono HB0.out.size))
    clear b1
    go_wp2_with fail
    go_ret
    exact ⟨rfl, HB1.out⟩
  · have h1 : ¬ (1100 : Int) < (p.length : Int) := by omega
    by_cases hb : x.tmod 2 = 0
    · have hbt : (x.tmod 2 == 0) = true := by simp [hb]
      have C1 := Lib.hid (fun ww h => gdivide_any t true B p p.length cp rfl y ww h hy)
      have KX : Hid (∀ k, k < p.length → TM.tAt (GM.taken t true p y p.length) k = GM.takenT t true (GM.pAt p k) (y + (k : Int))) := Lib.hid (fun k hk => by
        rw [TM.tAt_get (by rw [GM.taken_len]; exact hk)]
        simp [GM.taken])
      by_cases he : GM.divE t true p y = 0
      · have hp : GM.partsE t.qty p = 0 := by
          by_cases h : GM.partsE t.qty p = 0
          · exact h
          · unfold GM.divE at he; rw [if_neg h] at he; exact absurd he h
        have hr : 1 ≤ y ∧ y ≤ 1152921504606846976 - ((p.length : Int) - 1) := by
          by_cases h : 1 ≤ y ∧ y ≤ 1152921504606846976 - ((p.length : Int) - 1)
          · exact h
          · unfold GM.divE at he; rw [if_pos hp, if_neg h] at he; cases he
        have e2 : GM.divL t true p y = GM.taken t true p y p.length := by unfold GM.divL; rw [if_pos he]
        obtain ⟨⟨n1, n2⟩, hq, hs⟩ := GM.parts_inv hp
        rw [he, e2] at C1
        have HLQ : Hid (∀ u ∈ GM.taken t true p y p.length, trdQ u) := Lib.hid (fun u hu => by
          obtain ⟨i, hi, rfl⟩ := List.mem_map.1 hu
          have hi2 := List.mem_range.1 hi
          have hx : partQ (GM.pAt p i) := by rw [GM.pAt_get hi2]; exact HP.out.2 _ (List.getElem_mem hi2)
          have hx3 := hq _ (List.getElem_mem hi2)
          rw [← GM.pAt_get hi2] at hx3
          obtain ⟨z1, z2, z3⟩ := hx
          obtain ⟨u1, u2, u3, u4, u5, u6, u7, u8, u9, u10⟩ := ht
          rw [taken_yes]
          exact ⟨⟨by show -9223372036854775808 ≤ y + (i : Int); omega, by show y + (i : Int) ≤ 9223372036854775807; omega⟩, u2, u3, u4, z3, u6, z1, z2, u9, u10⟩)
        have HLL : Hid ((GM.taken t true p y p.length).length = p.length) := Lib.hid (GM.taken_len _ _ _ _ _)
        have KS := Lib.hid (fun k => @GM.psum_succ p k)
        have KB : Hid (∀ k, k ≤ p.length → 0 ≤ GM.psum (p.take k) ∧ GM.psum (p.take k) ≤ 1073741824) := Lib.hid (fun k hk => by
          have := GM.psum_bound (l := p.take k) (fun x hx => hq x (List.mem_of_mem_take hx))
          rw [List.length_take] at this
          omega)
        have KE : Hid (GM.psum (p.take p.length) = t.qty) := Lib.hid (by rw [List.take_length]; exact hs)
        have K0 : Hid (0 = GM.psum (p.take 0)) := Lib.hid rfl
        generalize GM.taken t true p y p.length = L at *
        clear he e2 hp hq hs ht n1 hy
        obtain ⟨f1, f2⟩ := hr
        go_enter Try.func6, Try.ntmps6
        go_wp2_with fail
        generalize (w.alloc (.cells #[.int .i64 t.id, .int .i64 t.day, .int .i64 t.time, .string t.ser.prod, .int .i64 t.ser.kind, .int .i64 t.ser.expiry, .int .i64 t.ser.strike, .int .i64 t.qty, .int .i64 t.price, .string t.bm, .string t.bn, .string t.sm, .string t.sn] 27)).alloc (.cells #[.int .i64 x, .int .i64 y] 29) = w0 at *
        refine (C1.out _ HP.out).mono ?_
        rintro e w1 ⟨v1, rfl, o1, b1⟩
        obtain ⟨A1, c1, rfl, hR1, hc1⟩ := o1.recs
        have HL1 : Hid (Trds w1 A1 L) := Lib.hid ⟨hR1, HLQ.out⟩
        have HB1 := Lib.hid (HB0.out.trans (b1.mono HB0.out.size))
        have HP1 := Lib.hid (HP.out.below b1)
        have HT1 := Lib.hid (HT0.out.below b1 HT0.out.lt)
        have HA1 := Lib.hid (HA0.out.below b1 HA0.out.lt)
        have el : (L.map trdV).length = p.length := by rw [List.length_map]; exact HLL.out
        rw [el]
        clear b1 o1 hR1 hc1 el HB0 HP HT0 HA0 C1 HLQ
        go_wp2_with fail
        go_loopw [10, 11, 12] (fun u i _ wr => ∃ (k : Nat) (n : Int), k ≤ p.length ∧ i = .int .i64 (k : Int) ∧ u = .int .i64 n ∧ 0 ≤ n ∧ n ≤ 1073741824 ∧ Hid (n = GM.psum (p.take k)) ∧ Hid (Below w1.heap.size w1 wr)) (fun _ i _ _ => p.length - (intOf i).toNat)
        case atStart => exact ⟨0, 0, by omega, rfl, rfl, by omega, by omega, K0, Lib.hid (Below.refl _ _)⟩
        case round =>
          obtain ⟨k, n, hk, rfl, rfl, x1, x2, HE, HB⟩ := hrel
          have HTr := Lib.hid (HT1.out.below HB.out HT1.out.lt)
          have HAr := Lib.hid (HA1.out.below HB.out HA1.out.lt)
          have tc := HTr.out.cell
          have htl := HTr.out.lt
          have g0 : wr.cell? ⟨w.heap.size + 1, 0, none⟩ = some (.int .i64 x) := HAr.out.cell 0
          have g1 : wr.cell? ⟨w.heap.size + 1, 1, none⟩ = some (.int .i64 y) := HAr.out.cell 1
          have hal := HAr.out.lt
          by_cases hlt : k < p.length
          · obtain ⟨b, off, u, rfl, hb1, HV, q, d0, d1, d2, d3, d4, d5, d6, d7, d8, d9, d10, d11, d12⟩ := trds_get (HL1.out.below HB.out) (k := k) (by rw [HLL.out]; exact hlt)
            obtain ⟨b', off', z, rfl, hb2, HVz, qz, e0, e1, e2⟩ := parts_get (HP1.out.below HB.out) hlt
            have hu : u = GM.takenT t true z (y + (k : Int)) := by rw [← HV.out, KX.out k hlt, HVz.out]
            rw [taken_yes] at hu
            subst hu
            simp only at d0 d1 d2 d3 d4 d5 d6 d7 d8 d9 d10 d11 d12
            have HN : Hid (n + z.qty = GM.psum (p.take (k + 1))) := Lib.hid (by rw [KS.out k hlt, HVz.out, HE.out])
            have a1 := KB.out (k + 1) (by omega)
            rw [← HN.out] at a1
            have b3 := a1.1; have b4 := a1.2
            have hid : y + (k : Int) - y = (k : Int) := by omega
            have hyk : y + (k : Int) ≤ 1152921504606846976 := by omega
            have E1 : ∀ ww, (Op.equalIn 10000 23 (serA t.ser) (serA t.ser)).run Try.prog ww = .ok true ww := fun ww => by rw [serB_in, NM.seqB_iff.2 rfl]
            have E2 : ∀ (c d : ByteArray) ww, (Op.equalIn 10000 25 (.agg #[.string c, .string d]) (.agg #[.string c, .string d])).run Try.prog ww = .ok true ww := fun c d ww => by rw [acc_in, NM.aeq_iff.2 ⟨rfl, rfl⟩]
            have ga := acc_guard; have gs := ser_guard
            have HB2 := Lib.hid (fun o => HB.out.alloc HB.out.size o)
            clear HV HVz q qz a1 HE
            go_wp2_with fail
            go_quiet (fail)
            go_wp2_with fail
            go_roundw
            case rel => exact ⟨k + 1, _, by omega, by go_num, by go_num, b3, b4, HN, Lib.hid (by first | exact HB2.out _ | exact below_drewN (HB2.out _) _)⟩
            case measure => simp [intOf]; omega
          · obtain rfl : k = p.length := by omega
            have hn : n = t.qty := HE.out.trans KE.out
            subst hn
            have HBF := Lib.hid (HB1.out.trans (HB.out.mono HB1.out.size))
            clear HE
            go_wp2_with fail
            refine (CG.out _).mono ?_
            clear tc g0 g1
            rintro e w4 ⟨rfl, b4⟩
            have HB4 := Lib.hid (HBF.out.trans (b4.mono HBF.out.size))
            clear b4
            go_wp2_with fail
            go_ret
            exact ⟨rfl, HB4.out⟩
      · have e1 : GM.divL t true p y = [] := by unfold GM.divL; rw [if_neg he]
        have hne : (GM.divE t true p y != 0) = true := by simpa using he
        rw [e1] at C1
        generalize GM.divE t true p y = r at *
        clear e1 he hy ht
        go_enter Try.func6, Try.ntmps6
        go_wp2_with fail
        generalize (w.alloc (.cells #[.int .i64 t.id, .int .i64 t.day, .int .i64 t.time, .string t.ser.prod, .int .i64 t.ser.kind, .int .i64 t.ser.expiry, .int .i64 t.ser.strike, .int .i64 t.qty, .int .i64 t.price, .string t.bm, .string t.bn, .string t.sm, .string t.sn] 27)).alloc (.cells #[.int .i64 x, .int .i64 y] 29) = w0 at *
        refine (C1.out _ HP.out).mono ?_
        rintro e w1 ⟨v1, rfl, o1, b1⟩
        obtain ⟨A1, c1, rfl, hR1, hc1⟩ := o1.recs
        have HB1 := Lib.hid (HB0.out.trans (b1.mono HB0.out.size))
        rw [show (([] : List TM.Trd).map trdV).length = 0 from rfl]
        clear o1 b1 hR1 hc1 C1
        go_wp2_with fail
        refine (CG.out _).mono ?_
        rintro e w4 ⟨rfl, b4⟩
        have HB4 := Lib.hid (HB1.out.trans (b4.mono HB1.out.size))
        clear b4
        go_wp2_with fail
        go_ret
        exact ⟨rfl, HB4.out⟩
    · have hbt : (x.tmod 2 == 0) = false := by simpa using hb
      have C1 := Lib.hid (fun ww h => gdivide_any t false B p p.length cp rfl y ww h hy)
      have KX : Hid (∀ k, k < p.length → TM.tAt (GM.taken t false p y p.length) k = GM.takenT t false (GM.pAt p k) (y + (k : Int))) := Lib.hid (fun k hk => by
        rw [TM.tAt_get (by rw [GM.taken_len]; exact hk)]
        simp [GM.taken])
      by_cases he : GM.divE t false p y = 0
      · have hp : GM.partsE t.qty p = 0 := by
          by_cases h : GM.partsE t.qty p = 0
          · exact h
          · unfold GM.divE at he; rw [if_neg h] at he; exact absurd he h
        have hr : 1 ≤ y ∧ y ≤ 1152921504606846976 - ((p.length : Int) - 1) := by
          by_cases h : 1 ≤ y ∧ y ≤ 1152921504606846976 - ((p.length : Int) - 1)
          · exact h
          · unfold GM.divE at he; rw [if_pos hp, if_neg h] at he; cases he
        have e2 : GM.divL t false p y = GM.taken t false p y p.length := by unfold GM.divL; rw [if_pos he]
        obtain ⟨⟨n1, n2⟩, hq, hs⟩ := GM.parts_inv hp
        rw [he, e2] at C1
        have HLQ : Hid (∀ u ∈ GM.taken t false p y p.length, trdQ u) := Lib.hid (fun u hu => by
          obtain ⟨i, hi, rfl⟩ := List.mem_map.1 hu
          have hi2 := List.mem_range.1 hi
          have hx : partQ (GM.pAt p i) := by rw [GM.pAt_get hi2]; exact HP.out.2 _ (List.getElem_mem hi2)
          have hx3 := hq _ (List.getElem_mem hi2)
          rw [← GM.pAt_get hi2] at hx3
          obtain ⟨z1, z2, z3⟩ := hx
          obtain ⟨u1, u2, u3, u4, u5, u6, u7, u8, u9, u10⟩ := ht
          rw [taken_no]
          exact ⟨⟨by show -9223372036854775808 ≤ y + (i : Int); omega, by show y + (i : Int) ≤ 9223372036854775807; omega⟩, u2, u3, u4, z3, u6, u7, u8, z1, z2⟩)
        have HLL : Hid ((GM.taken t false p y p.length).length = p.length) := Lib.hid (GM.taken_len _ _ _ _ _)
        have KS := Lib.hid (fun k => @GM.psum_succ p k)
        have KB : Hid (∀ k, k ≤ p.length → 0 ≤ GM.psum (p.take k) ∧ GM.psum (p.take k) ≤ 1073741824) := Lib.hid (fun k hk => by
          have := GM.psum_bound (l := p.take k) (fun x hx => hq x (List.mem_of_mem_take hx))
          rw [List.length_take] at this
          omega)
        have KE : Hid (GM.psum (p.take p.length) = t.qty) := Lib.hid (by rw [List.take_length]; exact hs)
        have K0 : Hid (0 = GM.psum (p.take 0)) := Lib.hid rfl
        generalize GM.taken t false p y p.length = L at *
        clear he e2 hp hq hs ht n1 hy
        obtain ⟨f1, f2⟩ := hr
        go_enter Try.func6, Try.ntmps6
        go_wp2_with fail
        generalize (w.alloc (.cells #[.int .i64 t.id, .int .i64 t.day, .int .i64 t.time, .string t.ser.prod, .int .i64 t.ser.kind, .int .i64 t.ser.expiry, .int .i64 t.ser.strike, .int .i64 t.qty, .int .i64 t.price, .string t.bm, .string t.bn, .string t.sm, .string t.sn] 27)).alloc (.cells #[.int .i64 x, .int .i64 y] 29) = w0 at *
        refine (C1.out _ HP.out).mono ?_
        rintro e w1 ⟨v1, rfl, o1, b1⟩
        obtain ⟨A1, c1, rfl, hR1, hc1⟩ := o1.recs
        have HL1 : Hid (Trds w1 A1 L) := Lib.hid ⟨hR1, HLQ.out⟩
        have HB1 := Lib.hid (HB0.out.trans (b1.mono HB0.out.size))
        have HP1 := Lib.hid (HP.out.below b1)
        have HT1 := Lib.hid (HT0.out.below b1 HT0.out.lt)
        have HA1 := Lib.hid (HA0.out.below b1 HA0.out.lt)
        have el : (L.map trdV).length = p.length := by rw [List.length_map]; exact HLL.out
        rw [el]
        clear b1 o1 hR1 hc1 el HB0 HP HT0 HA0 C1 HLQ
        go_wp2_with fail
        go_loopw [10, 11, 12] (fun u i _ wr => ∃ (k : Nat) (n : Int), k ≤ p.length ∧ i = .int .i64 (k : Int) ∧ u = .int .i64 n ∧ 0 ≤ n ∧ n ≤ 1073741824 ∧ Hid (n = GM.psum (p.take k)) ∧ Hid (Below w1.heap.size w1 wr)) (fun _ i _ _ => p.length - (intOf i).toNat)
        case atStart => exact ⟨0, 0, by omega, rfl, rfl, by omega, by omega, K0, Lib.hid (Below.refl _ _)⟩
        case round =>
          obtain ⟨k, n, hk, rfl, rfl, x1, x2, HE, HB⟩ := hrel
          have HTr := Lib.hid (HT1.out.below HB.out HT1.out.lt)
          have HAr := Lib.hid (HA1.out.below HB.out HA1.out.lt)
          have tc := HTr.out.cell
          have htl := HTr.out.lt
          have g0 : wr.cell? ⟨w.heap.size + 1, 0, none⟩ = some (.int .i64 x) := HAr.out.cell 0
          have g1 : wr.cell? ⟨w.heap.size + 1, 1, none⟩ = some (.int .i64 y) := HAr.out.cell 1
          have hal := HAr.out.lt
          by_cases hlt : k < p.length
          · obtain ⟨b, off, u, rfl, hb1, HV, q, d0, d1, d2, d3, d4, d5, d6, d7, d8, d9, d10, d11, d12⟩ := trds_get (HL1.out.below HB.out) (k := k) (by rw [HLL.out]; exact hlt)
            obtain ⟨b', off', z, rfl, hb2, HVz, qz, e0, e1, e2⟩ := parts_get (HP1.out.below HB.out) hlt
            have hu : u = GM.takenT t false z (y + (k : Int)) := by rw [← HV.out, KX.out k hlt, HVz.out]
            rw [taken_no] at hu
            subst hu
            simp only at d0 d1 d2 d3 d4 d5 d6 d7 d8 d9 d10 d11 d12
            have HN : Hid (n + z.qty = GM.psum (p.take (k + 1))) := Lib.hid (by rw [KS.out k hlt, HVz.out, HE.out])
            have a1 := KB.out (k + 1) (by omega)
            rw [← HN.out] at a1
            have b3 := a1.1; have b4 := a1.2
            have hid : y + (k : Int) - y = (k : Int) := by omega
            have hyk : y + (k : Int) ≤ 1152921504606846976 := by omega
            have E1 : ∀ ww, (Op.equalIn 10000 23 (serA t.ser) (serA t.ser)).run Try.prog ww = .ok true ww := fun ww => by rw [serB_in, NM.seqB_iff.2 rfl]
            have E2 : ∀ (c d : ByteArray) ww, (Op.equalIn 10000 25 (.agg #[.string c, .string d]) (.agg #[.string c, .string d])).run Try.prog ww = .ok true ww := fun c d ww => by rw [acc_in, NM.aeq_iff.2 ⟨rfl, rfl⟩]
            have ga := acc_guard; have gs := ser_guard
            have HB2 := Lib.hid (fun o => HB.out.alloc HB.out.size o)
            clear HV HVz q qz a1 HE
            go_wp2_with fail
            go_quiet (fail)
            go_wp2_with fail
            go_roundw
            case rel => exact ⟨k + 1, _, by omega, by go_num, by go_num, b3, b4, HN, Lib.hid (by first | exact HB2.out _ | exact below_drewN (HB2.out _) _)⟩
            case measure => simp [intOf]; omega
          · obtain rfl : k = p.length := by omega
            have hn : n = t.qty := HE.out.trans KE.out
            subst hn
            have HBF := Lib.hid (HB1.out.trans (HB.out.mono HB1.out.size))
            clear HE
            go_wp2_with fail
            refine (CG.out _).mono ?_
            clear tc g0 g1
            rintro e w4 ⟨rfl, b4⟩
            have HB4 := Lib.hid (HBF.out.trans (b4.mono HBF.out.size))
            clear b4
            go_wp2_with fail
            go_ret
            exact ⟨rfl, HB4.out⟩
      · have e1 : GM.divL t false p y = [] := by unfold GM.divL; rw [if_neg he]
        have hne : (GM.divE t false p y != 0) = true := by simpa using he
        rw [e1] at C1
        generalize GM.divE t false p y = r at *
        clear e1 he hy ht
        go_enter Try.func6, Try.ntmps6
        go_wp2_with fail
        generalize (w.alloc (.cells #[.int .i64 t.id, .int .i64 t.day, .int .i64 t.time, .string t.ser.prod, .int .i64 t.ser.kind, .int .i64 t.ser.expiry, .int .i64 t.ser.strike, .int .i64 t.qty, .int .i64 t.price, .string t.bm, .string t.bn, .string t.sm, .string t.sn] 27)).alloc (.cells #[.int .i64 x, .int .i64 y] 29) = w0 at *
        refine (C1.out _ HP.out).mono ?_
        rintro e w1 ⟨v1, rfl, o1, b1⟩
        obtain ⟨A1, c1, rfl, hR1, hc1⟩ := o1.recs
        have HB1 := Lib.hid (HB0.out.trans (b1.mono HB0.out.size))
        rw [show (([] : List TM.Trd).map trdV).length = 0 from rfl]
        clear o1 b1 hR1 hc1 C1
        go_wp2_with fail
        refine (CG.out _).mono ?_
        rintro e w4 ⟨rfl, b4⟩
        have HB4 := Lib.hid (HB1.out.trans (b4.mono HB1.out.size))
        clear b4
        go_wp2_with fail
        go_ret
        exact ⟨rfl, HB4.out⟩
end Go.Proofs.Ytafdjiilmogcjab.giveupKeeps

/- What the reach says of a text that opens a record, over any program. -/
namespace Go.Recs
open Go.ChangeShapes Go.WideShapes Go.RowKit Go.Deep
set_option linter.unusedVariables false
theorem first_sized {H : Type} {enc : TypeId × Value → H} {P : Program} {W : World} {base : Nat} {spare : Nat → Bool} {held : Bool} {T : TypeId} {cs : Array Value} {d : DataW H} {p : List MemPlace} {fs : Array Field} {f : Field} {s : ByteArray}
    {ts : List TypeId} {ds : List (DataW H)} {j : Nat}
    (h : (DataW.weightsEach P ts ds).all (· ≤ reachBytes) = true) (ht : ts[j]? = some T) (hd : ds[j]? = some d)
    (hT : DataW.Trod enc P W base spare held T (.agg cs) d p) (hu : P.underlying T = some (.struct fs)) (hf : fs[0]? = some f) (ho : f.offset = 0) (hs : P.underlying f.type = some .string) (hc : P.cellsOf f.type = 1) (hcs : cs[0]? = some (.string s)) :
    s.size ≤ 140737488351232 := by
  obtain ⟨fuel, hx⟩ := hT
  obtain ⟨xs, n, _, hxd, _, hxl, hfl⟩ := DataW.trod_struct hu hx
  have h0 := hfl 0 f hf
  have hpos : 0 < xs.length := by
    rw [hxl]
    rcases Nat.eq_zero_or_pos fs.size with e | e
    · rw [Array.getElem?_eq_none (by omega)] at hf; cases hf
    · exact e
  rw [List.getElem?_eq_getElem hpos] at h0
  obtain ⟨t, ht0, hx0, _⟩ := DataW.trod_string hs h0
  rw [ho, hc, List.drop_zero] at ht0
  have ets : t = s := by
    have e1 : (Value.agg cs).cells.toList.take 1 = [Value.string t] := ht0
    have e2 : (Value.agg cs).cells.toList[0]? = some (Value.string s) := by simpa [Value.cells] using hcs
    cases hl : (Value.agg cs).cells.toList with
    | nil => rw [hl] at e2; cases e2
    | cons a r => rw [hl] at e1 e2; simp at e1 e2; rw [e1] at e2; injection e2
  subst ets
  injection hxd with hd1 _
  have hw : t.data.toList.length ∈ d.weights P T := by
    rw [hd1]
    simp only [DataW.weights, hu]
    have hm := DataW.weights_mem_each (P := P) (ts := fs.toList.map (·.type)) (ds := xs.map (·.1)) (j := 0) (t := f.type) (d := xs[0].1) (by rw [List.getElem?_map, Array.getElem?_toList, hf]; rfl) (by rw [List.getElem?_map, List.getElem?_eq_getElem hpos]; rfl) t.data.toList.length
    apply hm
    rw [hx0]
    simp [DataW.weights]
  have := List.all_eq_true.1 h _ (DataW.weights_mem_each ht hd _ hw)
  have e : t.data.toList.length = t.size := Array.length_toList
  rw [e] at this
  have hr : reachBytes = 140737488351232 := by decide
  rw [← hr]
  simpa using this
end Go.Recs

/- A law's arguments: products and series, by value and in slices. -/
namespace Go.Proofs.Ytafdjiilmogcjab
open Go.ChangeShapes Go.WideShapes Go.ChangeAt Go.RowKit Go.Recs
set_option linter.unusedVariables false
set_option maxRecDepth 100000
theorem ser_leafs : leafs Try.prog 2 23 = some serL := by kernel_rfl
theorem open_serV {H : Type} {enc : TypeId × Value → H} {W : World} {base b0 : Nat} {spare : Nat → Bool} {held : Bool} {r : Reach} {v : Value} {d : DataW H} {p : List MemPlace}
    (hv : Value.okWide Try.prog W r b0 23 v) (h : DataW.Trod enc Try.prog W base spare held 23 v d p) :
    ∃ x : EM.Ser, v = .agg #[.string x.prod, .int .i64 x.kind, .int .i64 x.expiry, .int .i64 x.strike] ∧ serQ x := by
  obtain ⟨cs, rfl, hk⟩ := open_rec (n := 2) Try.underlying23 ser_leafs (by kernel_rfl) hv h
  obtain ⟨x, rfl, hq⟩ := ser_row cs hk
  exact ⟨x, rfl, hq⟩
theorem ser_sized {H : Type} {enc : TypeId × Value → H} {W : World} {base : Nat} {spare : Nat → Bool} {held : Bool} {x : EM.Ser} {d : DataW H} {p : List MemPlace} {ts : List TypeId} {ds : List (DataW H)} {j : Nat}
    (h : (DataW.weightsEach Try.prog ts ds).all (· ≤ reachBytes) = true) (ht : ts[j]? = some 23) (hd : ds[j]? = some d)
    (hT : DataW.Trod enc Try.prog W base spare held 23 (.agg #[.string x.prod, .int .i64 x.kind, .int .i64 x.expiry, .int .i64 x.strike]) d p) : x.prod.size ≤ 140737488351232 :=
  first_sized (cs := #[.string x.prod, .int .i64 x.kind, .int .i64 x.expiry, .int .i64 x.strike]) h ht hd hT Try.underlying23 rfl rfl Try.underlying9 (by kernel_rfl) rfl
end Go.Proofs.Ytafdjiilmogcjab

/- A law's arguments: trades, legs, accounts' names, a product with one of its series. -/
namespace Go.Proofs.Ytafdjiilmogcjab
open Go.ChangeShapes Go.WideShapes Go.ChangeAt Go.RowKit Go.Recs
set_option linter.unusedVariables false
set_option maxRecDepth 100000
theorem trd_leafs : leafs Try.prog 3 27 = some trdL := by kernel_rfl
theorem open_trdT {H : Type} {enc : TypeId × Value → H} {W : World} {base b0 : Nat} {spare : Nat → Bool} {held : Bool} {r : Reach} {v : Value} {d : DataW H} {p : List MemPlace}
    (hv : Value.okWide Try.prog W r b0 31 v) (h : DataW.Trod enc Try.prog W base spare held 31 v d p) :
    ∃ A cap, ∃ l : List TM.Trd, v = .slice A l.length cap ∧ (Trds W A l ∧ l.length ≤ cap) ∧ True := by
  obtain ⟨A, cap, rows, rfl, hR, hk, hc⟩ := open_recs (n := 3) (sz := 13) Try.underlying31 trd_leafs (by kernel_rfl) rfl (by omega) hv h
  obtain ⟨l, rfl, hq⟩ := typed (ls := trdL) trdV _ trd_row rows hk
  rw [List.length_map] at hc ⊢
  exact ⟨A, cap, l, rfl, ⟨⟨hR, hq⟩, hc⟩, trivial⟩
theorem open_trdV {H : Type} {enc : TypeId × Value → H} {W : World} {base b0 : Nat} {spare : Nat → Bool} {held : Bool} {r : Reach} {v : Value} {d : DataW H} {p : List MemPlace}
    (hv : Value.okWide Try.prog W r b0 27 v) (h : DataW.Trod enc Try.prog W base spare held 27 v d p) :
    ∃ t : TM.Trd, v = .agg #[.int .i64 t.id, .int .i64 t.day, .int .i64 t.time, .string t.ser.prod, .int .i64 t.ser.kind, .int .i64 t.ser.expiry, .int .i64 t.ser.strike, .int .i64 t.qty, .int .i64 t.price, .string t.bm, .string t.bn, .string t.sm, .string t.sn] ∧ trdQ t := by
  obtain ⟨cs, rfl, hk⟩ := open_rec (n := 3) Try.underlying27 trd_leafs (by kernel_rfl) hv h
  obtain ⟨x, rfl, hq⟩ := trd_row cs hk
  exact ⟨x, rfl, hq⟩
def kL : List Leaf := [.str, .str]
theorem k_leafs : leafs Try.prog 2 25 = some kL := by kernel_rfl
theorem open_kV {H : Type} {enc : TypeId × Value → H} {W : World} {base b0 : Nat} {spare : Nat → Bool} {held : Bool} {r : Reach} {v : Value} {d : DataW H} {p : List MemPlace}
    (hv : Value.okWide Try.prog W r b0 25 v) (h : DataW.Trod enc Try.prog W base spare held 25 v d p) :
    ∃ x : ByteArray × ByteArray, v = .agg #[.string x.1, .string x.2] ∧ x.1.size ≤ maxLen ∧ x.2.size ≤ maxLen := by
  obtain ⟨cs, rfl, hk⟩ := open_rec (n := 2) Try.underlying25 k_leafs (by kernel_rfl) hv h
  obtain ⟨c0, r0, rfl, ⟨s0, rfl, h0⟩, g0⟩ := okAll_cons hk
  obtain ⟨c1, r1, rfl, ⟨s1, rfl, h1⟩, g1⟩ := okAll_cons g0
  rw [okAll_nil g1]
  exact ⟨(s0, s1), rfl, h0, h1⟩
end Go.Proofs.Ytafdjiilmogcjab

/- A law's arguments: the parts of a division. -/
namespace Go.Proofs.Ytafdjiilmogcjab
open Go.ChangeShapes Go.WideShapes Go.ChangeAt Go.RowKit Go.Recs
set_option linter.unusedVariables false
set_option maxRecDepth 100000
theorem part_leafs : leafs Try.prog 3 56 = some partL := by kernel_rfl
theorem open_partT {H : Type} {enc : TypeId × Value → H} {W : World} {base b0 : Nat} {spare : Nat → Bool} {held : Bool} {r : Reach} {v : Value} {d : DataW H} {p : List MemPlace}
    (hv : Value.okWide Try.prog W r b0 28 v) (h : DataW.Trod enc Try.prog W base spare held 28 v d p) :
    ∃ A cap, ∃ l : List GM.Part, v = .slice A l.length cap ∧ (Parts W A l ∧ l.length ≤ cap) ∧ True := by
  obtain ⟨A, cap, rows, rfl, hR, hk, hc⟩ := open_recs (n := 3) (sz := 3) Try.underlying28 part_leafs (by kernel_rfl) rfl (by omega) hv h
  obtain ⟨l, rfl, hq⟩ := typed (ls := partL) partV _ part_row rows hk
  rw [List.length_map] at hc ⊢
  exact ⟨A, cap, l, rfl, ⟨⟨hR, hq⟩, hc⟩, trivial⟩
end Go.Proofs.Ytafdjiilmogcjab
