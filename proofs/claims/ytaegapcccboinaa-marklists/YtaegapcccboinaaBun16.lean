/- Put together: MrkE, MrkF, MrkG, MrkQ. -/
import Derived.Test.YtaegapcccboinaaBun15
import Derived.Test.YtaegapcccboinaaBun14
import Derived.Test.YtaegapcccboinaaBun10
/- Contracts of layer 18: rules, Price. -/
namespace Go.Proofs.Ytaegapcccboinaa
open Go.RowKit Go.Recs
set_option linter.unusedVariables false
set_option linter.unusedSimpArgs false
abbrev rC (gp gq gw gl gt : Nat) : Array Value := #[.func (.func 84) #[] #[.pointer (some ⟨gw, 0, none⟩), .pointer (some ⟨gq, 0, none⟩)], .func (.func 86) #[] #[.pointer (some ⟨gw, 0, none⟩), .pointer (some ⟨gp, 0, none⟩)],
  .func (.func 87) #[] #[.pointer (some ⟨gq, 0, none⟩)], .func (.func 88) #[] #[.pointer (some ⟨gq, 0, none⟩), .pointer (some ⟨gp, 0, none⟩)],
  .func (.func 89) #[] #[.pointer (some ⟨gt, 0, none⟩)], .func (.func 90) #[] #[.pointer (some ⟨gl, 0, none⟩), .pointer (some ⟨gq, 0, none⟩)],
  .func (.func 92) #[] #[], .func (.func 93) #[] #[.pointer (some ⟨gp, 0, none⟩), .pointer (some ⟨gq, 0, none⟩)]]
set_option maxRecDepth 100000 in
set_option maxHeartbeats 8000000 in
theorem rules_any (p : QM.Prod) (A : Option Addr) (cap : Nat) (q : MK.Quote) (hl : q.ticks.length ≤ 1048576) (w : World) (hI : Ticks w A q.ticks) :
    Calls Try.prog 50 #[prodA p, qA A cap q] w fun e w' => ∃ gp gq gw gl gt gr, e = .returned (.slice (some ⟨gr, 0, none⟩) 4 4) ∧ RBox w' p A cap q gp gq gw gl gt ∧ CB w' gr 92 (rC gp gq gw gl gt) ∧ Below w.heap.size w w' := by
  have hmf : ∀ (fn : Fn) (first cap : Array Value) (w : World), (Instr.makeFunc fn first cap).run Try.prog w = .ok (.func fn first cap) w := fun _ _ _ _ => rfl
  have HB0 := Lib.hid (below_al (below_al (Below.refl w.heap.size w) (.cells #[.string p.name, .int .i64 p.cur, .int .i64 p.mult, .int .i64 p.tick, .int .i64 p.low, .int .i64 p.high, .bool p.phys] 42)) (.cells (qC A cap q) 44))
  have HP0 : Hid (PBox ((w.alloc (.cells #[.string p.name, .int .i64 p.cur, .int .i64 p.mult, .int .i64 p.tick, .int .i64 p.low, .int .i64 p.high, .bool p.phys] 42)).alloc (.cells (qC A cap q) 44)) w.heap.size p) := Lib.hid ((PBox.new w p).alloc _)
  have HQ0 := Lib.hid (CB.new1 w (.cells #[.string p.name, .int .i64 p.cur, .int .i64 p.mult, .int .i64 p.tick, .int .i64 p.low, .int .i64 p.high, .bool p.phys] 42) 44 (qC A cap q))
  have HI := Lib.hid (hI.below HB0.out)
  have CW := Lib.hid (fun ww h => window_any A q.ticks q.ticks.length cap q.from_ q.to_ rfl hl ww h)
  have CL := Lib.hid (fun ww h => last_any A q.ticks q.ticks.length cap rfl ww h)
  have hwq : TP.win q.ticks q.from_ q.to_ = MK.winQ q := rfl
  rw [hwq] at CW
  have HWQ : Hid (∀ x ∈ MK.winQ q, tickQ x) := Lib.hid (fun x hx => hI.2 x (TP.win_mem.1 hx).1)
  obtain ⟨c0, c1, c2, c3, c4, c5, c6, c7⟩ := quote_cells HQ0.out
  clear hI hwq hl
  go_enter Try.func50, Try.ntmps50
  go_wp2_with fail
  generalize (w.alloc (.cells #[.string p.name, .int .i64 p.cur, .int .i64 p.mult, .int .i64 p.tick, .int .i64 p.low, .int .i64 p.high, .bool p.phys] 42)).alloc (.cells #[.slice A q.ticks.length cap, .int .i64 q.from_, .int .i64 q.to_, .int .i64 q.least, .int .i64 q.bid, .int .i64 q.ask, .int .i64 q.before, .int .i64 q.move] 44) = w0 at *
  refine (CW.out _ HI.out).mono ?_
  rintro e w1 ⟨v, rfl, ho, b1⟩
  obtain ⟨B, k, rfl, hT, _⟩ := OwnT.tr (f := tickV) (Q := tickQ) ho HWQ.out
  have HBa := Lib.hid (below_al (HB0.out.trans (b1.mono HB0.out.size)) (.cells #[.slice B (MK.winQ q).length k] 22))
  have HPa := Lib.hid ((HP0.out.below b1 HP0.out.lt).alloc (.cells #[.slice B (MK.winQ q).length k] 22))
  have HQa := Lib.hid ((HQ0.out.below b1 HQ0.out.lt).alloc (.cells #[.slice B (MK.winQ q).length k] 22))
  have HIa := Lib.hid ((HI.out.below b1).below ((Below.refl w1.heap.size w1).alloc (Nat.le_refl _) (.cells #[.slice B (MK.winQ q).length k] 22)))
  have HTa := Lib.hid (hT.below ((Below.refl w1.heap.size w1).alloc (Nat.le_refl _) (.cells #[.slice B (MK.winQ q).length k] 22)))
  have HWa := Lib.hid (CB.new w1 22 #[.slice B (MK.winQ q).length k])
  clear c0 c1 c2 c3 c4 c5 c6 c7 HP0 HQ0 HI HB0 b1 ho hT HWQ CW
  obtain ⟨c0, c1, c2, c3, c4, c5, c6, c7⟩ := quote_cells HQa.out
  go_wp2_with fail
  generalize w1.alloc (.cells #[.slice B (MK.winQ q).length k] 22) = wa at *
  refine (CL.out _ HIa.out).mono ?_
  rintro e w2 ⟨rfl, b2⟩
  have HB2 := Lib.hid (HBa.out.trans (b2.mono HBa.out.size))
  have HP2 := Lib.hid (HPa.out.below b2 HPa.out.lt)
  have HQ2 := Lib.hid (HQa.out.below b2 HQa.out.lt)
  have HT2 := Lib.hid (HTa.out.below b2)
  have HW2 := Lib.hid (HWa.out.below b2 HWa.out.lt)
  clear b2 HBa HPa HQa HIa HTa HWa c0 c1 c2 c3 c4 c5 c6 c7
  go_wp2_with fail
  go_ret
  refine ⟨w.heap.size, w.heap.size + 1, w1.heap.size, w2.heap.size, w2.heap.size + 1, w2.heap.size + 1 + 1, rfl, ⟨?_, ?_, ⟨B, k, ?_, ?_⟩, ?_, ?_⟩, ?_, ?_⟩
  · exact ((HP2.out.alloc _).alloc _).alloc _
  · exact ((HQ2.out.alloc _).alloc _).alloc _
  · exact ((HW2.out.alloc _).alloc _).alloc _
  · exact ((HT2.out.below (below_al (Below.refl _ _) _)).below (below_al (Below.refl _ _) _)).below (below_al (Below.refl _ _) _)
  · exact ((CB.new _ _ _).alloc _).alloc _
  · exact (CB.new1 _ _ _ _).alloc _
  · exact CB.new2 _ _ _ _ _
  · exact below_al (below_al (below_al HB2.out _) _) _
set_option maxRecDepth 100000 in
set_option maxHeartbeats 8000000 in
theorem price18_any (p : QM.Prod) (hp : prodQ p) (A : Option Addr) (cap : Nat) (q : MK.Quote) (hq : quoteQ q) (w : World) (hI : Ticks w A q.ticks) :
    Calls Try.prog 21 #[prodA p, qA A cap q] w fun e w' => e = .returned (.tuple #[.int .i64 (MK.priceN p q), .int .i64 (MK.ruleR p q), .int .i64 (MK.qE p q)]) ∧ Below w.heap.size w w' := by
  have CC := Lib.hid (fun ww h => mcheck18_any p hp A cap q hq ww h)
  have HB0 := Lib.hid (below_al (below_al (Below.refl w.heap.size w) (.cells #[.string p.name, .int .i64 p.cur, .int .i64 p.mult, .int .i64 p.tick, .int .i64 p.low, .int .i64 p.high, .bool p.phys] 42)) (.cells (qC A cap q) 44))
  have HP0 : Hid (PBox ((w.alloc (.cells #[.string p.name, .int .i64 p.cur, .int .i64 p.mult, .int .i64 p.tick, .int .i64 p.low, .int .i64 p.high, .bool p.phys] 42)).alloc (.cells (qC A cap q) 44)) w.heap.size p) := Lib.hid ((PBox.new w p).alloc _)
  have HQ0 := Lib.hid (CB.new1 w (.cells #[.string p.name, .int .i64 p.cur, .int .i64 p.mult, .int .i64 p.tick, .int .i64 p.low, .int .i64 p.high, .bool p.phys] 42) 44 (qC A cap q))
  have HI := Lib.hid (hI.below HB0.out)
  obtain ⟨c0, c1, c2, c3, c4, c5, c6, c7⟩ := quote_cells HQ0.out
  obtain ⟨d0, d1, d2, d3, d4, d5, d6⟩ := HP0.out.cells
  by_cases hk : MK.qE p q = 0
  · have hok := MK.ok_of hk
    have hl : q.ticks.length ≤ 1048576 := by have := (TP.good hok.tape).len; omega
    have CR := Lib.hid (fun ww h => rules_any p A cap q hl ww h)
    have CLP := Lib.hid (fun x ww => clamp_any x p.low p.high ww)
    have e1 : MK.priceN p q = CM.clamp (MK.rawN p q) p.low p.high := by unfold MK.priceN; rw [if_pos hk]
    have e2 : MK.ruleR p q = MK.ruleN q := by unfold MK.ruleR; rw [if_pos hk]
    rw [e1, e2]
    rw [hk] at CC ⊢
    have HOK := Lib.hid hok
    have HPQ := Lib.hid hp
    have KR : Hid ((q.least ≤ TP.volN (MK.winQ q) → MK.ruleN q = 1) ∧ (¬ q.least ≤ TP.volN (MK.winQ q) → MK.both q = true → MK.ruleN q = 2) ∧ (¬ q.least ≤ TP.volN (MK.winQ q) → ¬ MK.both q = true → 0 < q.ticks.length → MK.ruleN q = 3) ∧ (¬ q.least ≤ TP.volN (MK.winQ q) → ¬ MK.both q = true → ¬ 0 < q.ticks.length → MK.ruleN q = 4)) :=
      Lib.hid ⟨fun h => by unfold MK.ruleN; rw [if_pos h], fun h h2 => by unfold MK.ruleN; rw [if_neg h, if_pos h2], fun h h2 h3 => by unfold MK.ruleN; rw [if_neg h, if_neg h2, if_pos h3], fun h h2 h3 => by unfold MK.ruleN; rw [if_neg h, if_neg h2, if_neg h3]⟩
    generalize MK.ruleN q = rn at *
    clear hk hok hl e1 e2 hI hp hq
    have CM2 := Lib.hid (fun ww => CLP.out (MK.rawN p q) ww)
    generalize hcl : CM.clamp (MK.rawN p q) p.low p.high = cl at *
    clear hcl CLP
    go_enter Try.func21, Try.ntmps21
    go_wp2_with fail
    generalize (w.alloc (.cells #[.string p.name, .int .i64 p.cur, .int .i64 p.mult, .int .i64 p.tick, .int .i64 p.low, .int .i64 p.high, .bool p.phys] 42)).alloc (.cells #[.slice A q.ticks.length cap, .int .i64 q.from_, .int .i64 q.to_, .int .i64 q.least, .int .i64 q.bid, .int .i64 q.ask, .int .i64 q.before, .int .i64 q.move] 44) = w0 at *
    refine (CC.out _ HI.out).mono ?_
    rintro e w1 ⟨rfl, b1⟩
    have HB1 := Lib.hid (HB0.out.trans (b1.mono HB0.out.size))
    have HP1 := Lib.hid (HP0.out.below b1 HP0.out.lt)
    have HQ1 := Lib.hid (HQ0.out.below b1 HQ0.out.lt)
    have HI1 := Lib.hid (HI.out.below b1)
    clear b1 c0 c1 c2 c3 c4 c5 c6 c7 d0 d1 d2 d3 d4 d5 d6 HP0 HQ0 HI HB0 CC
    obtain ⟨c0, c1, c2, c3, c4, c5, c6, c7⟩ := quote_cells HQ1.out
    obtain ⟨d0, d1, d2, d3, d4, d5, d6⟩ := HP1.out.cells
    go_wp2_with fail
    refine (CR.out _ HI1.out).mono ?_
    rintro e w2 ⟨gp, gq, gw, gl, gt, gr, rfl, hR, hF, b2⟩
    have HB2 := Lib.hid (HB1.out.trans (b2.mono HB1.out.size))
    have HP2 := Lib.hid (HP1.out.below b2 HP1.out.lt)
    have HR2 := Lib.hid hR
    have HF2 := Lib.hid hF
    clear b2 hR hF c0 c1 c2 c3 c4 c5 c6 c7 d0 d1 d2 d3 d4 d5 d6 HP1 HQ1 HI1 HB1 CR
    go_wp2_with fail
    go_loopw [4, 5, 6, 8, 9, 20] (fun _ _ _ _ _ i wr => ∃ k : Nat, k ≤ 3 ∧ i = .int .i64 (k : Int) ∧ Hid (0 < k → TP.volN (MK.winQ q) < q.least) ∧ Hid (1 < k → MK.both q = false) ∧ Hid (2 < k → q.ticks = []) ∧ Hid (Below w2.heap.size w2 wr)) (fun _ _ _ _ _ i _ => 4 - (intOf i).toNat)
    case atStart => exact ⟨0, by omega, rfl, Lib.hid (fun h => absurd h (by omega)), Lib.hid (fun h => absurd h (by omega)), Lib.hid (fun h => absurd h (by omega)), Lib.hid (Below.refl _ _)⟩
    case round =>
      obtain ⟨k, hk, rfl, H1, H2, H3, HW⟩ := hrel
      rcases (by omega : k = 0 ∨ k = 1 ∨ k = 2 ∨ k = 3) with rfl | rfl | rfl | rfl
      · have HPr := Lib.hid (HP2.out.below HW.out HP2.out.lt)
        have HRr := HR2.out.below HW.out
        have HFr := HF2.out.below HW.out HF2.out.lt
        have k0 : wr.cell? ⟨gr, 0, none⟩ = some (.func (.func 84) #[] #[.pointer (some ⟨gw, 0, none⟩), .pointer (some ⟨gq, 0, none⟩)]) := HFr.cell 0
        have k1 : wr.cell? ⟨gr, 1, none⟩ = some (.func (.func 86) #[] #[.pointer (some ⟨gw, 0, none⟩), .pointer (some ⟨gp, 0, none⟩)]) := HFr.cell 1
        have klt := HFr.lt
        have HX := CB.new wr 92 #[.func (.func 84) #[] #[.pointer (some ⟨gw, 0, none⟩), .pointer (some ⟨gq, 0, none⟩)], .func (.func 86) #[] #[.pointer (some ⟨gw, 0, none⟩), .pointer (some ⟨gp, 0, none⟩)]]
        have x0 := HX.cell 0
        have x1 := HX.cell 1
        simp only [List.getElem?_toArray, List.getElem?_cons_zero, List.getElem?_cons_succ] at x0 x1
        have HRa := Lib.hid (HRr.below (below_al (Below.refl _ _) (.cells #[.func (.func 84) #[] #[.pointer (some ⟨gw, 0, none⟩), .pointer (some ⟨gq, 0, none⟩)], .func (.func 86) #[] #[.pointer (some ⟨gw, 0, none⟩), .pointer (some ⟨gp, 0, none⟩)]] 92)))
        have HPa := Lib.hid (HPr.out.alloc (.cells #[.func (.func 84) #[] #[.pointer (some ⟨gw, 0, none⟩), .pointer (some ⟨gq, 0, none⟩)], .func (.func 86) #[] #[.pointer (some ⟨gw, 0, none⟩), .pointer (some ⟨gp, 0, none⟩)]] 92))
        have HWa := Lib.hid (below_al HW.out (.cells #[.func (.func 84) #[] #[.pointer (some ⟨gw, 0, none⟩), .pointer (some ⟨gq, 0, none⟩)], .func (.func 86) #[] #[.pointer (some ⟨gw, 0, none⟩), .pointer (some ⟨gp, 0, none⟩)]] 92))
        have HXa := Lib.hid HX
        have CA := Lib.hid (fun ww (h : RBox ww p A cap q gp gq gw gl gt) => rule1a_any (w := ww) h HOK.out)
        clear HPr HRr HFr HX
        go_wp2_with fail
        generalize wr.alloc (.cells #[.func (.func 84) #[] #[.pointer (some ⟨gw, 0, none⟩), .pointer (some ⟨gq, 0, none⟩)], .func (.func 86) #[] #[.pointer (some ⟨gw, 0, none⟩), .pointer (some ⟨gp, 0, none⟩)]] 92) = wa at *
        refine (CA.out _ HRa.out).mono ?_
        rintro e w3 ⟨rfl, b3⟩
        have HR3 := Lib.hid (HRa.out.below b3)
        have HP3 := Lib.hid (HPa.out.below b3 HPa.out.lt)
        have HX3 := Lib.hid (HXa.out.below b3 HXa.out.lt)
        have HW3 := Lib.hid (HWa.out.trans (b3.mono HWa.out.size))
        clear b3 x0 x1 k0 k1 klt HRa HPa HXa HWa HW
        by_cases hc : q.least ≤ TP.volN (MK.winQ q)
        · rw [decide_eq_true hc]
          have HK := Lib.hid (KR.out.1 hc)
          have CB1 := Lib.hid (fun ww (h : RBox ww p A cap q gp gq gw gl gt) => rule1b_any h HOK.out hc)
          have x0 := HX3.out.cell 0
          have x1 := HX3.out.cell 1
          simp only [List.getElem?_toArray, List.getElem?_cons_zero, List.getElem?_cons_succ] at x0 x1
          clear hc
          go_wp2_with fail
          refine (CB1.out _ HR3.out).mono ?_
          rintro e w4 ⟨rfl, b4⟩
          have HW4 := Lib.hid (HW3.out.trans (b4.mono HW3.out.size))
          obtain ⟨d0, d1, d2, d3, d4, d5, d6⟩ := (HP3.out.below b4 HP3.out.lt).cells
          clear b4 x0 x1
          generalize MK.rawN p q = raw at *
          go_wp2_with fail
          refine (CM2.out _).mono ?_
          rintro e w5 ⟨rfl, rfl⟩
          have HBF := Lib.hid (HB2.out.trans (HW4.out.mono HB2.out.size))
          go_wp2_with fail
          (try simp only [Exit.inBlock, Exit.then])
          go_ret3
          exact ⟨by rw [HK.out] <;> rfl, HBF.out⟩
        · rw [decide_eq_false hc]
          have N1 : Hid (0 < 1 → TP.volN (MK.winQ q) < q.least) := Lib.hid (fun _ => by omega)
          have N2 : Hid (1 < 1 → MK.both q = false) := Lib.hid (fun h => absurd h (by omega))
          have N3 : Hid (2 < 1 → q.ticks = []) := Lib.hid (fun h => absurd h (by omega))
          clear hc
          go_wp2_with fail
          go_roundw
          case rel => exact ⟨1, by omega, by go_num, Lib.hid (fun _ => N1.out (by omega)), N2, N3, HW3⟩
          case measure => simp [intOf]
      · have HPr := Lib.hid (HP2.out.below HW.out HP2.out.lt)
        have HRr := HR2.out.below HW.out
        have HFr := HF2.out.below HW.out HF2.out.lt
        have k0 : wr.cell? ⟨gr, 2, none⟩ = some (.func (.func 87) #[] #[.pointer (some ⟨gq, 0, none⟩)]) := HFr.cell 2
        have k1 : wr.cell? ⟨gr, 3, none⟩ = some (.func (.func 88) #[] #[.pointer (some ⟨gq, 0, none⟩), .pointer (some ⟨gp, 0, none⟩)]) := HFr.cell 3
        have klt := HFr.lt
        have HX := CB.new wr 92 #[.func (.func 87) #[] #[.pointer (some ⟨gq, 0, none⟩)], .func (.func 88) #[] #[.pointer (some ⟨gq, 0, none⟩), .pointer (some ⟨gp, 0, none⟩)]]
        have x0 := HX.cell 0
        have x1 := HX.cell 1
        simp only [List.getElem?_toArray, List.getElem?_cons_zero, List.getElem?_cons_succ] at x0 x1
        have HRa := Lib.hid (HRr.below (below_al (Below.refl _ _) (.cells #[.func (.func 87) #[] #[.pointer (some ⟨gq, 0, none⟩)], .func (.func 88) #[] #[.pointer (some ⟨gq, 0, none⟩), .pointer (some ⟨gp, 0, none⟩)]] 92)))
        have HPa := Lib.hid (HPr.out.alloc (.cells #[.func (.func 87) #[] #[.pointer (some ⟨gq, 0, none⟩)], .func (.func 88) #[] #[.pointer (some ⟨gq, 0, none⟩), .pointer (some ⟨gp, 0, none⟩)]] 92))
        have HWa := Lib.hid (below_al HW.out (.cells #[.func (.func 87) #[] #[.pointer (some ⟨gq, 0, none⟩)], .func (.func 88) #[] #[.pointer (some ⟨gq, 0, none⟩), .pointer (some ⟨gp, 0, none⟩)]] 92))
        have HXa := Lib.hid HX
        have CA := Lib.hid (fun ww (h : RBox ww p A cap q gp gq gw gl gt) => rule2a_any (w := ww) h)
        clear HPr HRr HFr HX
        go_wp2_with fail
        generalize wr.alloc (.cells #[.func (.func 87) #[] #[.pointer (some ⟨gq, 0, none⟩)], .func (.func 88) #[] #[.pointer (some ⟨gq, 0, none⟩), .pointer (some ⟨gp, 0, none⟩)]] 92) = wa at *
        refine (CA.out _ HRa.out).mono ?_
        rintro e w3 ⟨rfl, b3⟩
        have HR3 := Lib.hid (HRa.out.below b3)
        have HP3 := Lib.hid (HPa.out.below b3 HPa.out.lt)
        have HX3 := Lib.hid (HXa.out.below b3 HXa.out.lt)
        have HW3 := Lib.hid (HWa.out.trans (b3.mono HWa.out.size))
        clear b3 x0 x1 k0 k1 klt HRa HPa HXa HWa HW
        by_cases hc : MK.both q = true
        · rw [hc]
          have HK := Lib.hid (KR.out.2.1 (by first | exact H1.out (by omega) | exact Int.not_le.2 (H1.out (by omega))) hc)
          have CB1 := Lib.hid (fun ww (h : RBox ww p A cap q gp gq gw gl gt) => rule2b_any h HOK.out (Int.not_le.2 (H1.out (by omega))) hc)
          have x0 := HX3.out.cell 0
          have x1 := HX3.out.cell 1
          simp only [List.getElem?_toArray, List.getElem?_cons_zero, List.getElem?_cons_succ] at x0 x1
          clear hc
          go_wp2_with fail
          refine (CB1.out _ HR3.out).mono ?_
          rintro e w4 ⟨rfl, b4⟩
          have HW4 := Lib.hid (HW3.out.trans (b4.mono HW3.out.size))
          obtain ⟨d0, d1, d2, d3, d4, d5, d6⟩ := (HP3.out.below b4 HP3.out.lt).cells
          clear b4 x0 x1
          generalize MK.rawN p q = raw at *
          go_wp2_with fail
          refine (CM2.out _).mono ?_
          rintro e w5 ⟨rfl, rfl⟩
          have HBF := Lib.hid (HB2.out.trans (HW4.out.mono HB2.out.size))
          go_wp2_with fail
          (try simp only [Exit.inBlock, Exit.then])
          go_ret3
          exact ⟨by rw [HK.out] <;> rfl, HBF.out⟩
        · rw [Bool.eq_false_iff.2 hc]
          have N1 : Hid (0 < 2 → TP.volN (MK.winQ q) < q.least) := Lib.hid (fun _ => H1.out (by omega))
          have N2 : Hid (1 < 2 → MK.both q = false) := Lib.hid (fun _ => by simpa using hc)
          have N3 : Hid (2 < 2 → q.ticks = []) := Lib.hid (fun h => absurd h (by omega))
          clear hc
          go_wp2_with fail
          go_roundw
          case rel => exact ⟨2, by omega, by go_num, Lib.hid (fun _ => N1.out (by omega)), N2, N3, HW3⟩
          case measure => simp [intOf]
      · have HPr := Lib.hid (HP2.out.below HW.out HP2.out.lt)
        have HRr := HR2.out.below HW.out
        have HFr := HF2.out.below HW.out HF2.out.lt
        have k0 : wr.cell? ⟨gr, 4, none⟩ = some (.func (.func 89) #[] #[.pointer (some ⟨gt, 0, none⟩)]) := HFr.cell 4
        have k1 : wr.cell? ⟨gr, 5, none⟩ = some (.func (.func 90) #[] #[.pointer (some ⟨gl, 0, none⟩), .pointer (some ⟨gq, 0, none⟩)]) := HFr.cell 5
        have klt := HFr.lt
        have HX := CB.new wr 92 #[.func (.func 89) #[] #[.pointer (some ⟨gt, 0, none⟩)], .func (.func 90) #[] #[.pointer (some ⟨gl, 0, none⟩), .pointer (some ⟨gq, 0, none⟩)]]
        have x0 := HX.cell 0
        have x1 := HX.cell 1
        simp only [List.getElem?_toArray, List.getElem?_cons_zero, List.getElem?_cons_succ] at x0 x1
        have HRa := Lib.hid (HRr.below (below_al (Below.refl _ _) (.cells #[.func (.func 89) #[] #[.pointer (some ⟨gt, 0, none⟩)], .func (.func 90) #[] #[.pointer (some ⟨gl, 0, none⟩), .pointer (some ⟨gq, 0, none⟩)]] 92)))
        have HPa := Lib.hid (HPr.out.alloc (.cells #[.func (.func 89) #[] #[.pointer (some ⟨gt, 0, none⟩)], .func (.func 90) #[] #[.pointer (some ⟨gl, 0, none⟩), .pointer (some ⟨gq, 0, none⟩)]] 92))
        have HWa := Lib.hid (below_al HW.out (.cells #[.func (.func 89) #[] #[.pointer (some ⟨gt, 0, none⟩)], .func (.func 90) #[] #[.pointer (some ⟨gl, 0, none⟩), .pointer (some ⟨gq, 0, none⟩)]] 92))
        have HXa := Lib.hid HX
        have CA := Lib.hid (fun ww (h : RBox ww p A cap q gp gq gw gl gt) => rule3a_any (w := ww) h)
        clear HPr HRr HFr HX
        go_wp2_with fail
        generalize wr.alloc (.cells #[.func (.func 89) #[] #[.pointer (some ⟨gt, 0, none⟩)], .func (.func 90) #[] #[.pointer (some ⟨gl, 0, none⟩), .pointer (some ⟨gq, 0, none⟩)]] 92) = wa at *
        refine (CA.out _ HRa.out).mono ?_
        rintro e w3 ⟨rfl, b3⟩
        have HR3 := Lib.hid (HRa.out.below b3)
        have HP3 := Lib.hid (HPa.out.below b3 HPa.out.lt)
        have HX3 := Lib.hid (HXa.out.below b3 HXa.out.lt)
        have HW3 := Lib.hid (HWa.out.trans (b3.mono HWa.out.size))
        clear b3 x0 x1 k0 k1 klt HRa HPa HXa HWa HW
        by_cases hc : 0 < q.ticks.length
        · rw [decide_eq_true hc]
          have HK := Lib.hid (KR.out.2.2.1 (by first | exact H1.out (by omega) | exact Int.not_le.2 (H1.out (by omega))) (by first | exact H2.out (by omega) | (rw [H2.out (by omega)]; decide)) hc)
          have CB1 := Lib.hid (fun ww (h : RBox ww p A cap q gp gq gw gl gt) => rule3b_any h (Int.not_le.2 (H1.out (by omega))) (by rw [H2.out (by omega)]; decide) hc)
          have x0 := HX3.out.cell 0
          have x1 := HX3.out.cell 1
          simp only [List.getElem?_toArray, List.getElem?_cons_zero, List.getElem?_cons_succ] at x0 x1
          clear hc
          go_wp2_with fail
          refine (CB1.out _ HR3.out).mono ?_
          rintro e w4 ⟨rfl, b4⟩
          have HW4 := Lib.hid (HW3.out.trans (b4.mono HW3.out.size))
          obtain ⟨d0, d1, d2, d3, d4, d5, d6⟩ := (HP3.out.below b4 HP3.out.lt).cells
          clear b4 x0 x1
          generalize MK.rawN p q = raw at *
          go_wp2_with fail
          refine (CM2.out _).mono ?_
          rintro e w5 ⟨rfl, rfl⟩
          have HBF := Lib.hid (HB2.out.trans (HW4.out.mono HB2.out.size))
          go_wp2_with fail
          (try simp only [Exit.inBlock, Exit.then])
          go_ret3
          exact ⟨by rw [HK.out] <;> rfl, HBF.out⟩
        · rw [decide_eq_false hc]
          have N1 : Hid (0 < 3 → TP.volN (MK.winQ q) < q.least) := Lib.hid (fun _ => H1.out (by omega))
          have N2 : Hid (1 < 3 → MK.both q = false) := Lib.hid (fun _ => H2.out (by omega))
          have N3 : Hid (2 < 3 → q.ticks = []) := Lib.hid (fun _ => List.eq_nil_of_length_eq_zero (by omega))
          clear hc
          go_wp2_with fail
          go_roundw
          case rel => exact ⟨3, by omega, by go_num, Lib.hid (fun _ => N1.out (by omega)), N2, N3, HW3⟩
          case measure => simp [intOf]
      · have HPr := Lib.hid (HP2.out.below HW.out HP2.out.lt)
        have HRr := HR2.out.below HW.out
        have HFr := HF2.out.below HW.out HF2.out.lt
        have k0 : wr.cell? ⟨gr, 6, none⟩ = some (.func (.func 92) #[] #[]) := HFr.cell 6
        have k1 : wr.cell? ⟨gr, 7, none⟩ = some (.func (.func 93) #[] #[.pointer (some ⟨gp, 0, none⟩), .pointer (some ⟨gq, 0, none⟩)]) := HFr.cell 7
        have klt := HFr.lt
        have HX := CB.new wr 92 #[.func (.func 92) #[] #[], .func (.func 93) #[] #[.pointer (some ⟨gp, 0, none⟩), .pointer (some ⟨gq, 0, none⟩)]]
        have x0 := HX.cell 0
        have x1 := HX.cell 1
        simp only [List.getElem?_toArray, List.getElem?_cons_zero, List.getElem?_cons_succ] at x0 x1
        have HRa := Lib.hid (HRr.below (below_al (Below.refl _ _) (.cells #[.func (.func 92) #[] #[], .func (.func 93) #[] #[.pointer (some ⟨gp, 0, none⟩), .pointer (some ⟨gq, 0, none⟩)]] 92)))
        have HPa := Lib.hid (HPr.out.alloc (.cells #[.func (.func 92) #[] #[], .func (.func 93) #[] #[.pointer (some ⟨gp, 0, none⟩), .pointer (some ⟨gq, 0, none⟩)]] 92))
        have HWa := Lib.hid (below_al HW.out (.cells #[.func (.func 92) #[] #[], .func (.func 93) #[] #[.pointer (some ⟨gp, 0, none⟩), .pointer (some ⟨gq, 0, none⟩)]] 92))
        have HXa := Lib.hid HX
        have CA := Lib.hid (fun ww (h : RBox ww p A cap q gp gq gw gl gt) => rule4a_any (w := ww))
        clear HPr HRr HFr HX
        go_wp2_with fail
        generalize wr.alloc (.cells #[.func (.func 92) #[] #[], .func (.func 93) #[] #[.pointer (some ⟨gp, 0, none⟩), .pointer (some ⟨gq, 0, none⟩)]] 92) = wa at *
        refine (CA.out _ HRa.out).mono ?_
        rintro e w3 ⟨rfl, b3⟩
        have HR3 := Lib.hid (HRa.out.below b3)
        have HP3 := Lib.hid (HPa.out.below b3 HPa.out.lt)
        have HX3 := Lib.hid (HXa.out.below b3 HXa.out.lt)
        have HW3 := Lib.hid (HWa.out.trans (b3.mono HWa.out.size))
        clear b3 x0 x1 k0 k1 klt HRa HPa HXa HWa HW
        have HK := Lib.hid (KR.out.2.2.2 (by first | exact H1.out (by omega) | exact Int.not_le.2 (H1.out (by omega))) (by first | exact H2.out (by omega) | (rw [H2.out (by omega)]; decide)) (by first | exact H3.out (by omega) | (rw [H3.out (by omega)]; decide)))
        have CB1 := Lib.hid (fun ww (h : RBox ww p A cap q gp gq gw gl gt) => rule4b_any h HPQ.out HOK.out (Int.not_le.2 (H1.out (by omega))) (by rw [H2.out (by omega)]; decide) (by rw [H3.out (by omega)]; decide))
        have x0 := HX3.out.cell 0
        have x1 := HX3.out.cell 1
        simp only [List.getElem?_toArray, List.getElem?_cons_zero, List.getElem?_cons_succ] at x0 x1
        go_wp2_with fail
        refine (CB1.out _ HR3.out).mono ?_
        rintro e w4 ⟨rfl, b4⟩
        have HW4 := Lib.hid (HW3.out.trans (b4.mono HW3.out.size))
        obtain ⟨d0, d1, d2, d3, d4, d5, d6⟩ := (HP3.out.below b4 HP3.out.lt).cells
        clear b4 x0 x1
        generalize MK.rawN p q = raw at *
        go_wp2_with fail
        refine (CM2.out _).mono ?_
        rintro e w5 ⟨rfl, rfl⟩
        have HBF := Lib.hid (HB2.out.trans (HW4.out.mono HB2.out.size))
        go_wp2_with fail
        (try simp only [Exit.inBlock, Exit.then])
        go_ret3
        exact ⟨by rw [HK.out] <;> rfl, HBF.out⟩
  · have e1 : MK.priceN p q = 0 := by unfold MK.priceN; rw [if_neg hk]
    have e2 : MK.ruleR p q = 0 := by unfold MK.ruleR; rw [if_neg hk]
    rw [e1, e2]
    generalize MK.qE p q = x at *
    have hne : (x != 0) = true := by simpa using hk
    clear hk e1 e2 hI hp hq
    go_enter Try.func21, Try.ntmps21
    go_wp2_with fail
    generalize (w.alloc (.cells #[.string p.name, .int .i64 p.cur, .int .i64 p.mult, .int .i64 p.tick, .int .i64 p.low, .int .i64 p.high, .bool p.phys] 42)).alloc (.cells #[.slice A q.ticks.length cap, .int .i64 q.from_, .int .i64 q.to_, .int .i64 q.least, .int .i64 q.bid, .int .i64 q.ask, .int .i64 q.before, .int .i64 q.move] 44) = w0 at *
    refine (CC.out _ HI.out).mono ?_
    rintro e w1 ⟨rfl, b1⟩
    have HB1 := Lib.hid (HB0.out.trans (b1.mono HB0.out.size))
    clear b1 c0 c1 c2 c3 c4 c5 c6 c7 d0 d1 d2 d3 d4 d5 d6
    go_wp2_with fail
    go_ret3
    exact ⟨rfl, HB1.out⟩
end Go.Proofs.Ytaegapcccboinaa

/- Contracts of layer 18: the examples. -/
namespace MK
def oilM : QM.Prod := ⟨⟨#[111, 105, 108]⟩, 0, 1, 5, 0, 1000, false⟩
def tk1 : TP.Tick := ⟨150, 6, 20⟩
def tk2 : TP.Tick := ⟨160, 4, 30⟩
def q1 : Quote := ⟨[tk1, tk2], 100, 200, 10, 0, 0, 50, 0⟩
def q2 : Quote := ⟨[tk1], 100, 200, 10, 25, 0, 50, 0⟩
def q3 : Quote := ⟨[], 100, 200, 10, 0, 0, 50, -7⟩
theorem q1_is : priceN oilM q1 = 25 ∧ ruleR oilM q1 = 1 ∧ qE oilM q1 = 0 := by decide
theorem q2_is : priceN oilM q2 = 25 ∧ ruleR oilM q2 = 3 ∧ qE oilM q2 = 0 := by decide
theorem q3_is : priceN oilM q3 = 45 ∧ ruleR oilM q3 = 4 ∧ qE oilM q3 = 0 := by decide
theorem mid_is : midN 20 25 5 = 20 ∧ midE 20 25 5 = 0 := by decide
end MK
namespace Go.Proofs.Ytaegapcccboinaa
open Go.RowKit Go.Recs
set_option linter.unusedVariables false
set_option linter.unusedSimpArgs false
theorem results_prod18 {fn : Func} {p : Tmp} (h : fn.results = #[.cell p 42]) (tmps : Array Value) (w : World) (g : Nat) (x : QM.Prod)
    (hp : tmps.getD p undef = .pointer (some ⟨g, 0, none⟩)) (hb : PBox w g x) : (results fn tmps).run Try.prog w = .ok (prodA x) w := by
  have hu : Try.prog.underlying 42 = some (.struct (Try.prog.fieldsOf 42)) := by kernel_rfl
  have hz : (Try.prog.info? 42).map (·.size) = some 7 := by kernel_rfl
  exact results_cell_row h tmps w g 42 _ (0, 0) _ hp hb hu rfl hz
theorem oilM_q : prodQ MK.oilM := ⟨by decide, ⟨by decide, by decide⟩, ⟨by decide, by decide⟩, ⟨by decide, by decide⟩, ⟨by decide, by decide⟩, ⟨by decide, by decide⟩⟩
theorem q1_q : quoteQ MK.q1 := ⟨⟨by decide, by decide⟩, ⟨by decide, by decide⟩, ⟨by decide, by decide⟩, ⟨by decide, by decide⟩, ⟨by decide, by decide⟩, ⟨by decide, by decide⟩, ⟨by decide, by decide⟩⟩
theorem q2_q : quoteQ MK.q2 := ⟨⟨by decide, by decide⟩, ⟨by decide, by decide⟩, ⟨by decide, by decide⟩, ⟨by decide, by decide⟩, ⟨by decide, by decide⟩, ⟨by decide, by decide⟩, ⟨by decide, by decide⟩⟩
theorem q3_q : quoteQ MK.q3 := ⟨⟨by decide, by decide⟩, ⟨by decide, by decide⟩, ⟨by decide, by decide⟩, ⟨by decide, by decide⟩, ⟨by decide, by decide⟩, ⟨by decide, by decide⟩, ⟨by decide, by decide⟩⟩
theorem oil18_any (w : World) : Calls Try.prog 62 #[] w fun e w' => e = .returned (prodA MK.oilM) ∧ Below w.heap.size w w' := by
  have HB := Lib.hid (below_al (Below.refl w.heap.size w) (.cells #[.string ⟨#[111, 105, 108]⟩, .int .i64 0, .int .i64 1, .int .i64 5, .int .i64 0, .int .i64 1000, .bool false] 42))
  have HP : Hid (PBox (w.alloc (.cells #[.string ⟨#[111, 105, 108]⟩, .int .i64 0, .int .i64 1, .int .i64 5, .int .i64 0, .int .i64 1000, .bool false] 42)) w.heap.size MK.oilM) := Lib.hid (PBox.new w MK.oilM)
  go_enter Try.func62, Try.ntmps62
  go_wp2_with fail
  (try simp only [Exit.inBlock, Exit.then])
  exact bodyPost_ret (results_prod18 rfl _ _ _ _ rfl HP.out) rfl ⟨rfl, HB.out⟩
theorem mark_lit (W : World) : Ticks (W.alloc (.cells #[.int .i64 150, .int .i64 6, .int .i64 20, .int .i64 160, .int .i64 4, .int .i64 30] 72)) (some ⟨W.heap.size, 0, none⟩) [MK.tk1, MK.tk2] := by
  obtain ⟨A', cap, e, hr, _⟩ := OwnR.recs (OwnR.lit W W.heap.size 72 3 ([MK.tk1, MK.tk2].map tickV) (by simp [tickV]) (Nat.le_refl _) (by simp [maxLen]))
  injection e with e
  subst e
  refine ⟨hr, ?_⟩
  intro x hx
  simp only [List.mem_cons, List.not_mem_nil, or_false] at hx
  rcases hx with rfl | rfl <;> exact small_tick (by decide)
set_option maxHeartbeats 8000000 in
set_option maxRecDepth 100000 in
theorem goes18_any (w : World) : Calls Try.prog 25 #[] w fun e w' => e = .returned (.bool true) ∧ Below w.heap.size w w' := by
  have P1 := Lib.hid (fun ww (h : Ticks ww (some ⟨w.heap.size, 0, none⟩) MK.q1.ticks) => price18_any MK.oilM oilM_q (some ⟨w.heap.size, 0, none⟩) 2 MK.q1 q1_q ww h)
  rw [MK.q1_is.1, MK.q1_is.2.1, MK.q1_is.2.2] at P1
  have P2 := Lib.hid (fun ww (h : Ticks ww (some ⟨w.heap.size, 0, none⟩) MK.q2.ticks) => price18_any MK.oilM oilM_q (some ⟨w.heap.size, 0, none⟩) 2 MK.q2 q2_q ww h)
  rw [MK.q2_is.1, MK.q2_is.2.1, MK.q2_is.2.2] at P2
  have P3 := Lib.hid (fun ww (h : Ticks ww none MK.q3.ticks) => price18_any MK.oilM oilM_q none 0 MK.q3 q3_q ww h)
  rw [MK.q3_is.1, MK.q3_is.2.1, MK.q3_is.2.2] at P3
  have M := Lib.hid (fun ww => mid_any 20 25 5 ww)
  rw [MK.mid_is.1, MK.mid_is.2] at M
  have O := Lib.hid (fun ww => oil18_any ww)
  have HT0 : Hid (∀ ww, Below (w.alloc (.cells #[.int .i64 150, .int .i64 6, .int .i64 20, .int .i64 160, .int .i64 4, .int .i64 30] 72)).heap.size (w.alloc (.cells #[.int .i64 150, .int .i64 6, .int .i64 20, .int .i64 160, .int .i64 4, .int .i64 30] 72)) ww → Ticks ww (some ⟨w.heap.size, 0, none⟩) MK.q1.ticks) := Lib.hid (fun ww h => (mark_lit w).below h)
  have hs1 : (w.alloc (.cells #[.int .i64 150, .int .i64 6, .int .i64 20, .int .i64 160, .int .i64 4, .int .i64 30] 72)).heap.size = w.heap.size + 1 := by simp
  have HT2 : Hid (∀ ww, Ticks ww (some ⟨w.heap.size, 0, none⟩) MK.q1.ticks → Ticks ww (some ⟨w.heap.size, 0, none⟩) MK.q2.ticks) := Lib.hid (fun ww h => h.take_ 1)
  have HT3 : Hid (∀ ww, Ticks ww none MK.q3.ticks) := Lib.hid (fun ww => TR.nil ww none)
  have HBW := Lib.hid (below_al (Below.refl w.heap.size w) (.cells #[.int .i64 150, .int .i64 6, .int .i64 20, .int .i64 160, .int .i64 4, .int .i64 30] 72))
  have HB0 := Lib.hid (below_al (Below.refl (w.alloc (.cells #[.int .i64 150, .int .i64 6, .int .i64 20, .int .i64 160, .int .i64 4, .int .i64 30] 72)).heap.size (w.alloc (.cells #[.int .i64 150, .int .i64 6, .int .i64 20, .int .i64 160, .int .i64 4, .int .i64 30] 72))) (.cells (qC (some ⟨w.heap.size, 0, none⟩) 2 MK.q1) 44))
  have HQ0 := Lib.hid (CB.new1 w (.cells #[.int .i64 150, .int .i64 6, .int .i64 20, .int .i64 160, .int .i64 4, .int .i64 30] 72) 44 (qC (some ⟨w.heap.size, 0, none⟩) 2 MK.q1))
  have eq1 : qC (some ⟨w.heap.size, 0, none⟩) 2 MK.q1 = #[.slice (some ⟨w.heap.size, 0, none⟩) 2 2, .int .i64 100, .int .i64 200, .int .i64 10, .int .i64 0, .int .i64 0, .int .i64 50, .int .i64 0] := rfl
  have ea1 : qA (some ⟨w.heap.size, 0, none⟩) 2 MK.q1 = .agg #[.slice (some ⟨w.heap.size, 0, none⟩) 2 2, .int .i64 100, .int .i64 200, .int .i64 10, .int .i64 0, .int .i64 0, .int .i64 50, .int .i64 0] := rfl
  have ea2 : qA (some ⟨w.heap.size, 0, none⟩) 2 MK.q2 = .agg #[.slice (some ⟨w.heap.size, 0, none⟩) 1 2, .int .i64 100, .int .i64 200, .int .i64 10, .int .i64 25, .int .i64 0, .int .i64 50, .int .i64 0] := rfl
  have ea3 : qA none 0 MK.q3 = .agg #[.slice none 0 0, .int .i64 100, .int .i64 200, .int .i64 10, .int .i64 0, .int .i64 0, .int .i64 50, .int .i64 (-7)] := rfl
  rw [eq1] at HB0 HQ0
  rw [ea1] at P1
  rw [ea2] at P2
  rw [ea3] at P3
  generalize MK.oilM = o at *
  generalize MK.q1.ticks = t1 at *
  generalize MK.q2.ticks = t2 at *
  generalize MK.q3.ticks = t3 at *
  clear eq1 ea1 ea2 ea3
  go_enter Try.func25, Try.ntmps25
  go_wp2_with fail
  generalize (w.alloc (.cells #[.int .i64 150, .int .i64 6, .int .i64 20, .int .i64 160, .int .i64 4, .int .i64 30] 72)).alloc (.cells #[.slice (some ⟨w.heap.size, 0, none⟩) 2 2, .int .i64 100, .int .i64 200, .int .i64 10, .int .i64 0, .int .i64 0, .int .i64 50, .int .i64 0] 44) = w0 at *
  generalize w.alloc (.cells #[.int .i64 150, .int .i64 6, .int .i64 20, .int .i64 160, .int .i64 4, .int .i64 30] 72) = w1 at *
  have HSZ := Lib.hid hs1
  clear hs1
  have HS0 : Hid (∀ ww, Below w0.heap.size w0 ww → (ww.cell? ⟨w.heap.size + 1, 0, none⟩ = some (.slice (some ⟨w.heap.size, 0, none⟩) 2 2) ∧ ww.cell? ⟨w.heap.size + 1, 1, none⟩ = some (.int .i64 100) ∧ ww.cell? ⟨w.heap.size + 1, 2, none⟩ = some (.int .i64 200) ∧ ww.cell? ⟨w.heap.size + 1, 3, none⟩ = some (.int .i64 10) ∧
      ww.cell? ⟨w.heap.size + 1, 4, none⟩ = some (.int .i64 0) ∧ ww.cell? ⟨w.heap.size + 1, 5, none⟩ = some (.int .i64 0) ∧ ww.cell? ⟨w.heap.size + 1, 6, none⟩ = some (.int .i64 50) ∧ ww.cell? ⟨w.heap.size + 1, 7, none⟩ = some (.int .i64 0))) :=
    Lib.hid (fun ww hb => by have h := HQ0.out.below hb HQ0.out.lt; exact ⟨h.cell 0, h.cell 1, h.cell 2, h.cell 3, h.cell 4, h.cell 5, h.cell 6, h.cell 7⟩)
  have HBw : Hid (Below w0.heap.size w0 w0.drew) := Lib.hid (Below.refl _ _).drew
  go_region_held3 (fun ww => ww.cell? ⟨w.heap.size + 1, 0, none⟩ = some (.slice (some ⟨w.heap.size, 0, none⟩) 2 2) ∧ ww.cell? ⟨w.heap.size + 1, 1, none⟩ = some (.int .i64 100) ∧ ww.cell? ⟨w.heap.size + 1, 2, none⟩ = some (.int .i64 200) ∧ ww.cell? ⟨w.heap.size + 1, 3, none⟩ = some (.int .i64 10) ∧
      ww.cell? ⟨w.heap.size + 1, 4, none⟩ = some (.int .i64 0) ∧ ww.cell? ⟨w.heap.size + 1, 5, none⟩ = some (.int .i64 0) ∧ ww.cell? ⟨w.heap.size + 1, 6, none⟩ = some (.int .i64 50) ∧ ww.cell? ⟨w.heap.size + 1, 7, none⟩ = some (.int .i64 0))
    (exact HS0.out _ HBw.out)
    (first
      | (go_at_call 62; refine (O.out _).mono ?_; rintro e w6 ⟨rfl, b6⟩; replace HBw := Lib.hid (HBw.out.trans (b6.mono HBw.out.size)); clear b6)
      | (go_at_call 21; refine (P1.out _ (HT0.out _ (HB0.out.trans (HBw.out.mono HB0.out.size)))).mono ?_; rintro e w6 ⟨rfl, b6⟩; replace HBw := Lib.hid (HBw.out.trans (b6.mono HBw.out.size)); clear b6))
  all_goals (
    have HB1 := Lib.hid (HB0.out.trans (HBw.out.mono HB0.out.size))
    have HQ1 := Lib.hid (HQ0.out.below HBw.out HQ0.out.lt)
    have k0 := HQ1.out.cell 0
    have k4 := HQ1.out.cell 4
    have r0 := HQ1.out.frozen 0
    have r4 := HQ1.out.frozen 4
    simp only [List.getElem?_toArray, List.getElem?_cons_zero, List.getElem?_cons_succ] at k0 k4
    have HQ2 := Lib.hid ((HQ1.out.set_ 0 (.slice (some ⟨w.heap.size, 0, none⟩) 1 2)).set_ 4 (.int .i64 25))
    have HB2 := Lib.hid ((HB1.out.setCell (p := ⟨w.heap.size + 1, 0, none⟩) (by rw [HSZ.out]; exact Nat.le_refl _) (.slice (some ⟨w.heap.size, 0, none⟩) 1 2)).setCell (p := ⟨w.heap.size + 1, 4, none⟩) (by rw [HSZ.out]; exact Nat.le_refl _) (.int .i64 25))
    clear HS0 HBw HB0 HQ0 P1 HB1 HQ1
    go_wp2_with fail
    generalize (w6.setCell ⟨w.heap.size + 1, 0, none⟩ (.slice (some ⟨w.heap.size, 0, none⟩) 1 2)).setCell ⟨w.heap.size + 1, 4, none⟩ (.int .i64 25) = wz at *
    clear k0 k4 r0 r4
    have HS2 : Hid (∀ ww, Below wz.heap.size wz ww → (ww.cell? ⟨w.heap.size + 1, 0, none⟩ = some (.slice (some ⟨w.heap.size, 0, none⟩) 1 2) ∧ ww.cell? ⟨w.heap.size + 1, 1, none⟩ = some (.int .i64 100) ∧ ww.cell? ⟨w.heap.size + 1, 2, none⟩ = some (.int .i64 200) ∧ ww.cell? ⟨w.heap.size + 1, 3, none⟩ = some (.int .i64 10) ∧
        ww.cell? ⟨w.heap.size + 1, 4, none⟩ = some (.int .i64 25) ∧ ww.cell? ⟨w.heap.size + 1, 5, none⟩ = some (.int .i64 0) ∧ ww.cell? ⟨w.heap.size + 1, 6, none⟩ = some (.int .i64 50) ∧ ww.cell? ⟨w.heap.size + 1, 7, none⟩ = some (.int .i64 0))) :=
      Lib.hid (fun ww hb => by have h := HQ2.out.below hb HQ2.out.lt; exact ⟨h.cell 0, h.cell 1, h.cell 2, h.cell 3, h.cell 4, h.cell 5, h.cell 6, h.cell 7⟩)
    have HBw : Hid (Below wz.heap.size wz wz.drew) := Lib.hid (Below.refl _ _).drew
    go_region_held3 (fun ww => ww.cell? ⟨w.heap.size + 1, 0, none⟩ = some (.slice (some ⟨w.heap.size, 0, none⟩) 1 2) ∧ ww.cell? ⟨w.heap.size + 1, 1, none⟩ = some (.int .i64 100) ∧ ww.cell? ⟨w.heap.size + 1, 2, none⟩ = some (.int .i64 200) ∧ ww.cell? ⟨w.heap.size + 1, 3, none⟩ = some (.int .i64 10) ∧
        ww.cell? ⟨w.heap.size + 1, 4, none⟩ = some (.int .i64 25) ∧ ww.cell? ⟨w.heap.size + 1, 5, none⟩ = some (.int .i64 0) ∧ ww.cell? ⟨w.heap.size + 1, 6, none⟩ = some (.int .i64 50) ∧ ww.cell? ⟨w.heap.size + 1, 7, none⟩ = some (.int .i64 0))
      (exact HS2.out _ HBw.out)
      (first
        | (go_at_call 62; refine (O.out _).mono ?_; rintro e w6 ⟨rfl, b6⟩; replace HBw := Lib.hid (HBw.out.trans (b6.mono HBw.out.size)); clear b6)
        | (go_at_call 21; refine (P2.out _ (HT2.out _ (HT0.out _ (HB2.out.trans (HBw.out.mono HB2.out.size))))).mono ?_; rintro e w6 ⟨rfl, b6⟩; replace HBw := Lib.hid (HBw.out.trans (b6.mono HBw.out.size)); clear b6))
    all_goals (
      have HB3 := Lib.hid (HB2.out.trans (HBw.out.mono HB2.out.size))
      clear HS2 HBw HB2 HQ2 P2 HT2 HT0
      go_wp2_with fail
      refine (O.out _).mono ?_
      rintro e w7 ⟨rfl, b7⟩
      have HB4 := Lib.hid (HB3.out.trans (b7.mono HB3.out.size))
      clear b7 HB3
      go_wp2_with fail
      refine (P3.out _ (HT3.out _)).mono ?_
      rintro e w8 ⟨rfl, b8⟩
      have HB5 := Lib.hid (HB4.out.trans (b8.mono HB4.out.size))
      clear b8 HB4
      go_wp2_with fail
      refine (M.out _).mono ?_
      rintro e w9 ⟨rfl, b9⟩
      have HB6 := Lib.hid (HB5.out.trans (b9.mono HB5.out.size))
      have HBF := Lib.hid (HBW.out.trans (HB6.out.mono HBW.out.size))
      clear b9 HB5
      go_wp2_with fail
      go_ret
      exact ⟨rfl, HBF.out⟩))
end Go.Proofs.Ytaegapcccboinaa

/- Contracts of layer 18's reference: within, Mid. -/
namespace Go.Proofs.Ytaegapcccboinaa
open Go.RowKit Go.Recs
set_option linter.unusedVariables false
set_option linter.unusedSimpArgs false
theorem rwithin18_any (n a b : Int) (w : World) :
    Calls Try.prog 60 #[.int .i64 n, .int .i64 a, .int .i64 b] w fun e w' => e = .returned (.bool (QM.within n a b)) ∧ w = w' := by
  by_cases h1 : a ≤ n
  · by_cases h2 : n ≤ b
    · have e : QM.within n a b = true := QM.within_true.2 ⟨h1, h2⟩
      rw [e]; clear e
      go_enter Try.func60, Try.ntmps60
      go_wp2
      go_ret
      exact ⟨rfl, rfl⟩
    · have e : QM.within n a b = false := QM.within_false.2 (.inr (by omega))
      rw [e]; clear e
      go_enter Try.func60, Try.ntmps60
      go_wp2
      go_ret
      exact ⟨rfl, rfl⟩
  · have e : QM.within n a b = false := QM.within_false.2 (.inl (by omega))
    rw [e]; clear e
    go_enter Try.func60, Try.ntmps60
    go_wp2
    go_ret
    exact ⟨rfl, rfl⟩
theorem rwithin18p_any (n : Int) (w : World) : Calls Try.prog 60 #[.int .i64 n, .int .i64 (-16777216), .int .i64 16777216] w fun e w' => e = .returned (.bool (MK.isP n)) ∧ w = w' := rwithin18_any n (-16777216) 16777216 w
set_option maxHeartbeats 4000000 in
theorem rmid18_any (b a t : Int) (w : World) : Calls Try.prog 27 #[.int .i64 b, .int .i64 a, .int .i64 t] w fun e w' => e = .returned (.tuple #[.int .i64 (MK.midN b a t), .int .i64 (MK.midE b a t)]) ∧ Below w.heap.size w w' := by
  have C1 := Lib.hid (fun ww => rwithin18_any t 1 16777216 ww)
  have CP := Lib.hid (fun n ww => rwithin18p_any n ww)
  cases g1 : QM.within t 1 16777216
  · rw [(MK.mid_tick g1).1, (MK.mid_tick g1).2]
    rw [g1] at C1
    clear g1
    go_enter Try.func27, Try.ntmps27
    go_wp2_with fail
    refine (C1.out _).mono ?_
    rintro e w1 ⟨rfl, rfl⟩
    go_wp2_with fail
    go_ret2
    exact ⟨rfl, Below.refl _ _⟩
  · have ht := QM.within_true.1 g1
    cases g2 : MK.midB b a
    · have K := MK.midB_false.1 g2
      obtain ⟨k1, ⟨n1, n2⟩, p1, p2⟩ := MK.mid_bounds ht K.1 K.2.1
      rw [(MK.mid_ok g1 g2).1, (MK.mid_ok g1 g2).2]
      have C2 := fun ww => rmuldiv_any (b + a) 1 (2 * t) 5 ww
      have e : MK.midK b a t = CM.mdN (b + a) 1 (2 * t) 5 := rfl
      rw [k1, ← e] at C2
      have C2 := Lib.hid C2
      have i1 : MK.isP b = true := MK.isP_true.2 K.1
      have i2 : MK.isP a = true := MK.isP_true.2 K.2.1
      have CB1 := Lib.hid (fun ww => CP.out b ww)
      have CA1 := Lib.hid (fun ww => CP.out a ww)
      rw [i1] at CB1
      rw [i2] at CA1
      rw [g1] at C1
      obtain ⟨⟨b1, b2⟩, ⟨a1, a2⟩, hle⟩ := K
      obtain ⟨t1, t2⟩ := ht
      have hnl : ¬ a < b := by omega
      generalize MK.midK b a t = k at *
      clear g1 g2 i1 i2 e CP
      go_enter Try.func27, Try.ntmps27
      go_wp2_with fail
      refine (C1.out _).mono ?_
      rintro e w1 ⟨rfl, rfl⟩
      go_wp2_with fail
      refine (CB1.out _).mono ?_
      rintro e w1 ⟨rfl, rfl⟩
      go_wp2_with fail
      refine (CA1.out _).mono ?_
      rintro e w1 ⟨rfl, rfl⟩
      go_wp2_with fail
      refine (C2.out _).mono ?_
      rintro e w1 ⟨rfl, rfl⟩
      go_wp2_with fail
      go_ret2
      exact ⟨rfl, Below.refl _ _⟩
    · rw [(MK.mid_price g1 g2).1, (MK.mid_price g1 g2).2]
      rw [g1] at C1
      unfold MK.midB at g2
      have CB1 := Lib.hid (fun ww => CP.out b ww)
      have CA1 := Lib.hid (fun ww => CP.out a ww)
      clear g1 CP
      cases i1 : MK.isP b
      · rw [i1] at CB1
        clear g2 i1
        go_enter Try.func27, Try.ntmps27
        go_wp2_with fail
        refine (C1.out _).mono ?_
        rintro e w1 ⟨rfl, rfl⟩
        go_wp2_with fail
        refine (CB1.out _).mono ?_
        rintro e w1 ⟨rfl, rfl⟩
        go_wp2_with fail
        go_ret2
        exact ⟨rfl, Below.refl _ _⟩
      · rw [i1] at CB1
        cases i2 : MK.isP a
        · rw [i2] at CA1
          clear g2 i1 i2
          go_enter Try.func27, Try.ntmps27
          go_wp2_with fail
          refine (C1.out _).mono ?_
          rintro e w1 ⟨rfl, rfl⟩
          go_wp2_with fail
          refine (CB1.out _).mono ?_
          rintro e w1 ⟨rfl, rfl⟩
          go_wp2_with fail
          refine (CA1.out _).mono ?_
          rintro e w1 ⟨rfl, rfl⟩
          go_wp2_with fail
          go_ret2
          exact ⟨rfl, Below.refl _ _⟩
        · rw [i2] at CA1
          rw [i1, i2] at g2
          have hlt : a < b := by simpa using g2
          clear g2 i1 i2
          go_enter Try.func27, Try.ntmps27
          go_wp2_with fail
          refine (C1.out _).mono ?_
          rintro e w1 ⟨rfl, rfl⟩
          go_wp2_with fail
          refine (CB1.out _).mono ?_
          rintro e w1 ⟨rfl, rfl⟩
          go_wp2_with fail
          refine (CA1.out _).mono ?_
          rintro e w1 ⟨rfl, rfl⟩
          go_wp2_with fail
          go_ret2
          exact ⟨rfl, Below.refl _ _⟩
end Go.Proofs.Ytaegapcccboinaa

/- Contracts of layer 18's reference: the order of series, Find, Same. -/
namespace Go.Proofs.Ytaegapcccboinaa
open Go.RowKit Go.Recs
set_option linter.unusedVariables false
set_option linter.unusedSimpArgs false
theorem rordm_any (a b : Int) (w : World) : Calls Try.prog 104 #[.int .i64 a, .int .i64 b] w fun e w' => e = .returned (.int .i64 (EM.ord a b)) ∧ w' = w := by
  unfold EM.ord
  by_cases h1 : a < b
  · rw [if_pos h1]
    go_enter Try.func104, Try.ntmps104
    go_wp2_with fail
    go_ret
    exact ⟨rfl, rfl⟩
  · rw [if_neg h1]
    by_cases h2 : b < a
    · rw [if_pos h2]
      go_enter Try.func104, Try.ntmps104
      go_wp2_with fail
      go_ret
      exact ⟨rfl, rfl⟩
    · rw [if_neg h2]
      go_enter Try.func104, Try.ntmps104
      go_wp2_with fail
      go_ret
      exact ⟨rfl, rfl⟩
theorem rcmpm_any (a b : EM.Ser) (w : World) : Calls Try.prog 67 #[serA a, serA b] w fun e w' => e = .returned (.int .i64 (EM.cmp a b)) ∧ Below w.heap.size w w' := by
  have HB0 := Lib.hid (below_al (below_al (Below.refl w.heap.size w) (.cells (sC a) 57)) (.cells (sC b) 57))
  have C1 := Lib.hid (fun x y ww => rordm_any x y ww)
  unfold EM.cmp EM.less
  cases p1 : Op.bytesLess a.prod.toList b.prod.toList
  · cases p2 : Op.bytesLess b.prod.toList a.prod.toList
    · have p4 : (!a.prod.toList == b.prod.toList) = false := by rw [EM.same_prod p1 p2]; simp
      simp only [Bool.false_eq_true, if_false]
      by_cases h1 : a.expiry = b.expiry
      · rw [if_neg (by simpa using h1)]
        have e1 : (a.expiry != b.expiry) = false := by simp [h1]
        clear h1
        by_cases h2 : a.kind = b.kind
        · rw [if_neg (by simpa using h2)]
          have e2 : (a.kind != b.kind) = false := by simp [h2]
          clear h2
          go_enter Try.func67, Try.ntmps67
          go_wp2_with fail
          refine (C1.out _ _ _).mono ?_
          rintro e w1 ⟨rfl, rfl⟩
          go_wp2_with fail
          go_ret
          exact ⟨rfl, HB0.out⟩
        · rw [if_pos h2]
          go_enter Try.func67, Try.ntmps67
          go_wp2_with fail
          refine (C1.out _ _ _).mono ?_
          rintro e w1 ⟨rfl, rfl⟩
          go_wp2_with fail
          go_ret
          exact ⟨rfl, HB0.out⟩
      · rw [if_pos h1]
        go_enter Try.func67, Try.ntmps67
        go_wp2_with fail
        refine (C1.out _ _ _).mono ?_
        rintro e w1 ⟨rfl, rfl⟩
        go_wp2_with fail
        go_ret
        exact ⟨rfl, HB0.out⟩
    · have p5 : ¬ a.prod.toList = b.prod.toList := fun e => by rw [e, OM.bl_irrefl] at p2; cases p2
      have p4 : (!a.prod.toList == b.prod.toList) = true := by simpa using p5
      simp only [Bool.false_eq_true, if_false, if_true]
      go_enter Try.func67, Try.ntmps67
      go_wp2_with fail
      go_ret
      exact ⟨rfl, HB0.out⟩
  · simp only [if_true]
    go_enter Try.func67, Try.ntmps67
    go_wp2_with fail
    go_ret
    exact ⟨rfl, HB0.out⟩
theorem mark_guard : Try.prog.eqGuardType Try.prog.depth 59 = false := by kernel_rfl
theorem mark_in (x y : MR.Mk) (w : World) : (Op.equalIn 10000 59 (mkA x) (mkA y)).run Try.prog w = .ok (NM.seqB x.ser y.ser && (x.price == y.price)) w := by
  have u3 := Try.underlying3
  have a3 := Try.isAgg3
  have z3 := Try.sizeOf3
  have aS := Try.isAgg57
  have zS := Try.sizeOf57
  have hS : Try.prog.underlying 59 = some (.struct (Try.prog.fieldsOf 59)) := by kernel_rfl
  have hp : Try.prog.stoodInHeld 59 = false := by kernel_rfl
  have e2 := ser_in_at 9997 x.ser y.ser
  rw [show (10000 : Nat) = 9999 + 1 from rfl, run_equalIn_agg w 9999 59 _ _ hS hp]
  simp only [Program.fieldsOf, Try.underlying59]
  generalize NM.seqB x.ser y.ser = q at *
  go_simp
  cases q <;> by_cases h1 : x.price = y.price <;> simp [h1]
theorem rsame18_any (A B : Option Addr) (l : List MR.Mk) (n c m d : Nat) (hn : n = l.length) (hm : m = l.length) (w : World) (hI : Marks w A l) (hJ : Marks w B l) :
    Calls Try.prog 34 #[.slice A n c, .slice B m d] w fun e w' => e = .returned (.bool true) ∧ ∃ k, w' = w.drewN k := by
  subst hn hm
  have hlen := hI.len
  have gl := mark_guard
  go_enter Try.func34, Try.ntmps34
  go_wp2_with fail
  go_loopw [5] (fun i wr => ∃ k : Nat, k ≤ l.length ∧ i = .int .i64 (k : Int) ∧ ∃ nd, wr = w.drewN nd) (fun i _ => l.length - (intOf i).toNat)
  case atStart => exact ⟨0, by omega, rfl, 0, rfl⟩
  case round =>
    obtain ⟨k, hk, rfl, nd, rfl⟩ := hrel
    by_cases hlt : k < l.length
    · obtain ⟨b, off, x, rfl, hb, HV, q, d0, d1, d2, d3, d4⟩ := marks_get hI hlt
      obtain ⟨b', off', x', rfl, hb', HV', q', g0, g1, g2, g3, g4⟩ := marks_get hJ hlt
      obtain rfl : x = x' := HV.out.symm.trans HV'.out
      have HI := Lib.hid hI; have HJ := Lib.hid hJ
      have E1 : ∀ ww, (Op.equalIn 10000 59 (mkA x) (mkA x)).run Try.prog ww = .ok true ww := fun ww => by rw [mark_in, NM.seqB_iff.2 rfl]; simp
      clear q q' HV HV' hI hJ
      go_wp2_with fail
      go_quiet (fail)
      go_wp2_with fail
      go_roundw
      case rel => exact ⟨k + 1, by omega, by go_num, by first | exact ⟨nd, rfl⟩ | exact ⟨_, rfl⟩ | exact ⟨nd + 1, rfl⟩⟩
      case measure => simp [intOf]; omega
    · obtain rfl : k = l.length := by omega
      go_wp2_with fail
      go_ret
      exact ⟨rfl, nd, rfl⟩
set_option maxHeartbeats 4000000 in
set_option maxRecDepth 100000 in
theorem rfind18_any (A : Option Addr) (l : List MR.Mk) (n cap : Nat) (hn : n = l.length) (s : EM.Ser) (w : World) (hI : Marks w A l) :
    Calls Try.prog 31 #[.slice A n cap, serA s] w fun e w' => e = .returned (.tuple #[.int .i64 (MR.findN l s), .bool (MR.findB l s)]) ∧ Below w.heap.size w w' := by
  subst hn
  have hlen := hI.len
  rw [find_fN, show MR.findB l s = (MR.fidx l s).isSome from rfl]
  have KY := Lib.hid (fun k => @MR.fidx_some l s k); have KN := Lib.hid (@MR.fidx_none l s)
  have HB0 := Lib.hid ((Below.refl w.heap.size w).alloc (Nat.le_refl _) (.cells (sC s) 57))
  have HS := Lib.hid (CB.new w 57 (sC s))
  have HI := Lib.hid (hI.below HB0.out)
  generalize MR.fidx l s = o at *
  generalize hpr : fN l o = pr
  generalize hbb : o.isSome = bb
  have HPR := Lib.hid hpr; have HBB1 := Lib.hid hbb
  clear hI hpr hbb
  have hgl : w.heap.size < (w.alloc (.cells (sC s) 57)).heap.size := HS.out.lt
  have E2 := ser_guard
  go_enter Try.func31, Try.ntmps31
  go_wp2_with fail
  generalize w.alloc (.cells #[.string s.prod, .int .i64 s.kind, .int .i64 s.expiry, .int .i64 s.strike] 57) = w1 at *
  go_loopw [6] (fun i wr => ∃ k : Nat, k ≤ l.length ∧ i = .int .i64 (k : Int) ∧ Hid (∀ j, j < k → NM.seqB (MR.mAt l j).ser s = false) ∧ Hid (Below w1.heap.size w1 wr)) (fun i _ => l.length - (intOf i).toNat)
  case atStart => exact ⟨0, by omega, rfl, Lib.hid (fun j h => by omega), Lib.hid (Below.refl _ _)⟩
  case round =>
    obtain ⟨k, hk, rfl, HE, HB⟩ := hrel
    by_cases hlt : k < l.length
    · obtain ⟨b, off, x, rfl, hb, HV, q, d0, d1, d2, d3, d4⟩ := marks_get (HI.out.below HB.out) hlt
      have HV2 : Hid (NM.seqB (MR.mAt l k).ser s = NM.seqB x.ser s) := Lib.hid (by rw [HV.out])
      have HG2 := Lib.hid (HS.out.below HB.out hgl)
      have s0 := HG2.out.cell 0; have s1 := HG2.out.cell 1; have s2 := HG2.out.cell 2; have s3 := HG2.out.cell 3
      simp only [List.getElem?_toArray, List.getElem?_cons_zero, List.getElem?_cons_succ] at s0 s1 s2 s3
      have E1 : ∀ ww, (Op.equalIn 10000 57 (.agg #[.string x.ser.prod, .int .i64 x.ser.kind, .int .i64 x.ser.expiry, .int .i64 x.ser.strike]) (.agg #[.string s.prod, .int .i64 s.kind, .int .i64 s.expiry, .int .i64 s.strike])).run Try.prog ww = .ok (NM.seqB x.ser s) ww := fun ww => ser_in x.ser s ww
      clear q
      cases hp : NM.seqB x.ser s
      · rw [hp] at E1 HV2
        have HE2 : Hid (∀ j, j < k + 1 → NM.seqB (MR.mAt l j).ser s = false) := Lib.hid (fun j hj => by
          rcases Nat.lt_or_ge j k with gg | gg
          · exact HE.out j gg
          · obtain rfl : j = k := by omega
            exact HV2.out)
        clear hp
        go_wp2_with fail
        go_quiet (fail)
        go_wp2_with fail
        go_roundw
        case rel => exact ⟨k + 1, by omega, by go_num, HE2, Lib.hid (by first | exact below_drewN HB.out _ | exact HB.out.drew | exact HB.out)⟩
        case measure => simp [intOf]; omega
      · rw [hp] at E1
        have HX := Lib.hid (KY.out k hlt HE.out (HV2.out.trans hp))
        have HXP : Hid (pr = x.price) := Lib.hid (by rw [← HPR.out, HX.out]; show (MR.mAt l k).price = _; rw [HV.out])
        have HXS : Hid (bb = true) := Lib.hid (by rw [← HBB1.out, HX.out]; rfl)
        clear hp HX
        go_wp2_with fail
        go_quiet (fail)
        go_wp2_with fail
        go_ret2
        exact ⟨by rw [HXP.out, HXS.out] <;> rfl, HB0.out.trans ((below_drewN HB.out _).mono HB0.out.size)⟩
    · obtain rfl : k = l.length := by omega
      have HX := Lib.hid (KN.out HE.out)
      have HXP : Hid (pr = 0) := Lib.hid (by rw [← HPR.out, HX.out]; rfl)
      have HXS : Hid (bb = false) := Lib.hid (by rw [← HBB1.out, HX.out]; rfl)
      clear HX
      go_wp2_with fail
      go_ret2
      exact ⟨by rw [HXP.out, HXS.out] <;> rfl, HB0.out.trans (HB.out.mono HB0.out.size)⟩
end Go.Proofs.Ytaegapcccboinaa
