/- Put together: MrkE. -/
import Derived.Test.YtagmknahmkniaacBun11
/- Contracts of layer 18: rules, Price. -/
namespace Go.Proofs.Ytagmknahmkniaac
open Go.RowKit Go.Recs
set_option linter.unusedVariables false
set_option linter.unusedSimpArgs false
abbrev rC (gp gq gw gl gt : Nat) : Array Value := #[.func (.func 44) #[] #[.pointer (some ⟨gw, 0, none⟩), .pointer (some ⟨gq, 0, none⟩)], .func (.func 46) #[] #[.pointer (some ⟨gw, 0, none⟩), .pointer (some ⟨gp, 0, none⟩)],
  .func (.func 48) #[] #[.pointer (some ⟨gq, 0, none⟩)], .func (.func 49) #[] #[.pointer (some ⟨gq, 0, none⟩), .pointer (some ⟨gp, 0, none⟩)],
  .func (.func 51) #[] #[.pointer (some ⟨gt, 0, none⟩)], .func (.func 52) #[] #[.pointer (some ⟨gl, 0, none⟩), .pointer (some ⟨gq, 0, none⟩)],
  .func (.func 54) #[] #[], .func (.func 55) #[] #[.pointer (some ⟨gp, 0, none⟩), .pointer (some ⟨gq, 0, none⟩)]]
set_option maxRecDepth 100000 in
set_option maxHeartbeats 8000000 in
theorem rules_any (p : QM.Prod) (A : Option Addr) (cap : Nat) (q : MK.Quote) (hl : q.ticks.length ≤ 1048576) (w : World) (hI : Ticks w A q.ticks) :
    Calls Try.prog 15 #[prodA p, qA A cap q] w fun e w' => ∃ gp gq gw gl gt gr, e = .returned (.slice (some ⟨gr, 0, none⟩) 4 4) ∧ RBox w' p A cap q gp gq gw gl gt ∧ CB w' gr 67 (rC gp gq gw gl gt) ∧ Below w.heap.size w w' := by
  have hmf : ∀ (fn : Fn) (first cap : Array Value) (w : World), (Instr.makeFunc fn first cap).run Try.prog w = .ok (.func fn first cap) w := fun _ _ _ _ => rfl
  have HB0 := Lib.hid (below_al (below_al (Below.refl w.heap.size w) (.cells #[.string p.name, .int .i64 p.cur, .int .i64 p.mult, .int .i64 p.tick, .int .i64 p.low, .int .i64 p.high, .bool p.phys] 23)) (.cells (qC A cap q) 26))
  have HP0 : Hid (PBox ((w.alloc (.cells #[.string p.name, .int .i64 p.cur, .int .i64 p.mult, .int .i64 p.tick, .int .i64 p.low, .int .i64 p.high, .bool p.phys] 23)).alloc (.cells (qC A cap q) 26)) w.heap.size p) := Lib.hid ((PBox.new w p).alloc _)
  have HQ0 := Lib.hid (CB.new1 w (.cells #[.string p.name, .int .i64 p.cur, .int .i64 p.mult, .int .i64 p.tick, .int .i64 p.low, .int .i64 p.high, .bool p.phys] 23) 26 (qC A cap q))
  have HI := Lib.hid (hI.below HB0.out)
  have CW := Lib.hid (fun ww h => window_any A q.ticks q.ticks.length cap q.from_ q.to_ rfl hl ww h)
  have CL := Lib.hid (fun ww h => last_any A q.ticks q.ticks.length cap rfl ww h)
  have hwq : TP.win q.ticks q.from_ q.to_ = MK.winQ q := rfl
  rw [hwq] at CW
  have HWQ : Hid (∀ x ∈ MK.winQ q, tickQ x) := Lib.hid (fun x hx => hI.2 x (TP.win_mem.1 hx).1)
  obtain ⟨c0, c1, c2, c3, c4, c5, c6, c7⟩ := quote_cells HQ0.out
  clear hI hwq hl
  go_enter Try.func15, Try.ntmps15
  go_wp2_with fail
  generalize (w.alloc (.cells #[.string p.name, .int .i64 p.cur, .int .i64 p.mult, .int .i64 p.tick, .int .i64 p.low, .int .i64 p.high, .bool p.phys] 23)).alloc (.cells #[.slice A q.ticks.length cap, .int .i64 q.from_, .int .i64 q.to_, .int .i64 q.least, .int .i64 q.bid, .int .i64 q.ask, .int .i64 q.before, .int .i64 q.move] 26) = w0 at *
  refine (CW.out _ HI.out).mono ?_
  rintro e w1 ⟨v, rfl, ho, b1⟩
  obtain ⟨B, k, rfl, hT, _⟩ := OwnT.tr (f := tickV) (Q := tickQ) ho HWQ.out
  have HBa := Lib.hid (below_al (HB0.out.trans (b1.mono HB0.out.size)) (.cells #[.slice B (MK.winQ q).length k] 24))
  have HPa := Lib.hid ((HP0.out.below b1 HP0.out.lt).alloc (.cells #[.slice B (MK.winQ q).length k] 24))
  have HQa := Lib.hid ((HQ0.out.below b1 HQ0.out.lt).alloc (.cells #[.slice B (MK.winQ q).length k] 24))
  have HIa := Lib.hid ((HI.out.below b1).below ((Below.refl w1.heap.size w1).alloc (Nat.le_refl _) (.cells #[.slice B (MK.winQ q).length k] 24)))
  have HTa := Lib.hid (hT.below ((Below.refl w1.heap.size w1).alloc (Nat.le_refl _) (.cells #[.slice B (MK.winQ q).length k] 24)))
  have HWa := Lib.hid (CB.new w1 24 #[.slice B (MK.winQ q).length k])
  clear c0 c1 c2 c3 c4 c5 c6 c7 HP0 HQ0 HI HB0 b1 ho hT HWQ CW
  obtain ⟨c0, c1, c2, c3, c4, c5, c6, c7⟩ := quote_cells HQa.out
  go_wp2_with fail
  generalize w1.alloc (.cells #[.slice B (MK.winQ q).length k] 24) = wa at *
  refine (CL.out _ HIa.out).mono ?_
  rintro e w2 ⟨rfl, b2⟩
  have HB2 := Lib.hid (HBa.out.trans (b2.mono HBa.out.size))
  have HP2 := Lib.hid (HPa.out.below b2 HPa.out.lt)
  have HQ2 := Lib.hid (HQa.out.below b2 HQa.out.lt)
  have HT2 := Lib.hid (HTa.out.below b2)
  have HW2 := Lib.hid (HWa.out.below b2 HWa.out.lt)
  clear b2 HBa HPa HQa HIa HTa HWa c0 c1 c2 c3 c4 c5 c6 c7
  go_wp2_with fail
  go_ret
  refine ⟨w.heap.size, w.heap.size + 1, w1.heap.size, w2.heap.size, w2.heap.size + 1, w2.heap.size + 1 + 1, rfl, ⟨?_, ?_, ⟨B, k, ?_, ?_⟩, ?_, ?_⟩, ?_, ?_⟩
  · exact ((HP2.out.alloc _).alloc _).alloc _
  · exact ((HQ2.out.alloc _).alloc _).alloc _
  · exact ((HW2.out.alloc _).alloc _).alloc _
  · exact ((HT2.out.below (below_al (Below.refl _ _) _)).below (below_al (Below.refl _ _) _)).below (below_al (Below.refl _ _) _)
  · exact ((CB.new _ _ _).alloc _).alloc _
  · exact (CB.new1 _ _ _ _).alloc _
  · exact CB.new2 _ _ _ _ _
  · exact below_al (below_al (below_al HB2.out _) _) _
set_option maxRecDepth 100000 in
set_option maxHeartbeats 8000000 in
theorem price18_any (p : QM.Prod) (hp : prodQ p) (A : Option Addr) (cap : Nat) (q : MK.Quote) (hq : quoteQ q) (w : World) (hI : Ticks w A q.ticks) :
    Calls Try.prog 5 #[prodA p, qA A cap q] w fun e w' => e = .returned (.tuple #[.int .i64 (MK.priceN p q), .int .i64 (MK.ruleR p q), .int .i64 (MK.qE p q)]) ∧ Below w.heap.size w w' := by
  have CC := Lib.hid (fun ww h => mcheck18_any p hp A cap q hq ww h)
  have HB0 := Lib.hid (below_al (below_al (Below.refl w.heap.size w) (.cells #[.string p.name, .int .i64 p.cur, .int .i64 p.mult, .int .i64 p.tick, .int .i64 p.low, .int .i64 p.high, .bool p.phys] 23)) (.cells (qC A cap q) 26))
  have HP0 : Hid (PBox ((w.alloc (.cells #[.string p.name, .int .i64 p.cur, .int .i64 p.mult, .int .i64 p.tick, .int .i64 p.low, .int .i64 p.high, .bool p.phys] 23)).alloc (.cells (qC A cap q) 26)) w.heap.size p) := Lib.hid ((PBox.new w p).alloc _)
  have HQ0 := Lib.hid (CB.new1 w (.cells #[.string p.name, .int .i64 p.cur, .int .i64 p.mult, .int .i64 p.tick, .int .i64 p.low, .int .i64 p.high, .bool p.phys] 23) 26 (qC A cap q))
  have HI := Lib.hid (hI.below HB0.out)
  obtain ⟨c0, c1, c2, c3, c4, c5, c6, c7⟩ := quote_cells HQ0.out
  obtain ⟨d0, d1, d2, d3, d4, d5, d6⟩ := HP0.out.cells
  by_cases hk : MK.qE p q = 0
  · have hok := MK.ok_of hk
    have hl : q.ticks.length ≤ 1048576 := by have := (TP.good hok.tape).len; omega
    have CR := Lib.hid (fun ww h => rules_any p A cap q hl ww h)
    have CLP := Lib.hid (fun x ww => clamp_any x p.low p.high ww)
    have e1 : MK.priceN p q = CM.clamp (MK.rawN p q) p.low p.high := by unfold MK.priceN; rw [if_pos hk]
    have e2 : MK.ruleR p q = MK.ruleN q := by unfold MK.ruleR; rw [if_pos hk]
    rw [e1, e2]
    rw [hk] at CC ⊢
    have HOK := Lib.hid hok
    have HPQ := Lib.hid hp
    have KR : Hid ((q.least ≤ TP.volN (MK.winQ q) → MK.ruleN q = 1) ∧ (¬ q.least ≤ TP.volN (MK.winQ q) → MK.both q = true → MK.ruleN q = 2) ∧ (¬ q.least ≤ TP.volN (MK.winQ q) → ¬ MK.both q = true → 0 < q.ticks.length → MK.ruleN q = 3) ∧ (¬ q.least ≤ TP.volN (MK.winQ q) → ¬ MK.both q = true → ¬ 0 < q.ticks.length → MK.ruleN q = 4)) :=
      Lib.hid ⟨fun h => by unfold MK.ruleN; rw [if_pos h], fun h h2 => by unfold MK.ruleN; rw [if_neg h, if_pos h2], fun h h2 h3 => by unfold MK.ruleN; rw [if_neg h, if_neg h2, if_pos h3], fun h h2 h3 => by unfold MK.ruleN; rw [if_neg h, if_neg h2, if_neg h3]⟩
    generalize MK.ruleN q = rn at *
    clear hk hok hl e1 e2 hI hp hq
    have CM2 := Lib.hid (fun ww => CLP.out (MK.rawN p q) ww)
    generalize hcl : CM.clamp (MK.rawN p q) p.low p.high = cl at *
    clear hcl CLP
    go_enter Try.func5, Try.ntmps5
    go_wp2_with fail
    generalize (w.alloc (.cells #[.string p.name, .int .i64 p.cur, .int .i64 p.mult, .int .i64 p.tick, .int .i64 p.low, .int .i64 p.high, .bool p.phys] 23)).alloc (.cells #[.slice A q.ticks.length cap, .int .i64 q.from_, .int .i64 q.to_, .int .i64 q.least, .int .i64 q.bid, .int .i64 q.ask, .int .i64 q.before, .int .i64 q.move] 26) = w0 at *
    refine (CC.out _ HI.out).mono ?_
    rintro e w1 ⟨rfl, b1⟩
    have HB1 := Lib.hid (HB0.out.trans (b1.mono HB0.out.size))
    have HP1 := Lib.hid (HP0.out.below b1 HP0.out.lt)
    have HQ1 := Lib.hid (HQ0.out.below b1 HQ0.out.lt)
    have HI1 := Lib.hid (HI.out.below b1)
    clear b1 c0 c1 c2 c3 c4 c5 c6 c7 d0 d1 d2 d3 d4 d5 d6 HP0 HQ0 HI HB0 CC
    obtain ⟨c0, c1, c2, c3, c4, c5, c6, c7⟩ := quote_cells HQ1.out
    obtain ⟨d0, d1, d2, d3, d4, d5, d6⟩ := HP1.out.cells
    go_wp2_with fail
    refine (CR.out _ HI1.out).mono ?_
    rintro e w2 ⟨gp, gq, gw, gl, gt, gr, rfl, hR, hF, b2⟩
    have HB2 := Lib.hid (HB1.out.trans (b2.mono HB1.out.size))
    have HP2 := Lib.hid (HP1.out.below b2 HP1.out.lt)
    have HR2 := Lib.hid hR
    have HF2 := Lib.hid hF
    clear b2 hR hF c0 c1 c2 c3 c4 c5 c6 c7 d0 d1 d2 d3 d4 d5 d6 HP1 HQ1 HI1 HB1 CR
    go_wp2_with fail
    go_loopw [4, 5, 6, 8, 9, 20] (fun _ _ _ _ _ i wr => ∃ k : Nat, k ≤ 3 ∧ i = .int .i64 (k : Int) ∧ Hid (0 < k → TP.volN (MK.winQ q) < q.least) ∧ Hid (1 < k → MK.both q = false) ∧ Hid (2 < k → q.ticks = []) ∧ Hid (Below w2.heap.size w2 wr)) (fun _ _ _ _ _ i _ => 4 - (intOf i).toNat)
    case atStart => exact ⟨0, by omega, rfl, Lib.hid (fun h => absurd h (by omega)), Lib.hid (fun h => absurd h (by omega)), Lib.hid (fun h => absurd h (by omega)), Lib.hid (Below.refl _ _)⟩
    case round =>
      obtain ⟨k, hk, rfl, H1, H2, H3, HW⟩ := hrel
      rcases (by omega : k = 0 ∨ k = 1 ∨ k = 2 ∨ k = 3) with rfl | rfl | rfl | rfl
      · have HPr := Lib.hid (HP2.out.below HW.out HP2.out.lt)
        have HRr := HR2.out.below HW.out
        have HFr := HF2.out.below HW.out HF2.out.lt
        have k0 : wr.cell? ⟨gr, 0, none⟩ = some (.func (.func 44) #[] #[.pointer (some ⟨gw, 0, none⟩), .pointer (some ⟨gq, 0, none⟩)]) := HFr.cell 0
        have k1 : wr.cell? ⟨gr, 1, none⟩ = some (.func (.func 46) #[] #[.pointer (some ⟨gw, 0, none⟩), .pointer (some ⟨gp, 0, none⟩)]) := HFr.cell 1
        have klt := HFr.lt
        have HX := CB.new wr 67 #[.func (.func 44) #[] #[.pointer (some ⟨gw, 0, none⟩), .pointer (some ⟨gq, 0, none⟩)], .func (.func 46) #[] #[.pointer (some ⟨gw, 0, none⟩), .pointer (some ⟨gp, 0, none⟩)]]
        have x0 := HX.cell 0
        have x1 := HX.cell 1
        simp only [List.getElem?_toArray, List.getElem?_cons_zero, List.getElem?_cons_succ] at x0 x1
        have HRa := Lib.hid (HRr.below (below_al (Below.refl _ _) (.cells #[.func (.func 44) #[] #[.pointer (some ⟨gw, 0, none⟩), .pointer (some ⟨gq, 0, none⟩)], .func (.func 46) #[] #[.pointer (some ⟨gw, 0, none⟩), .pointer (some ⟨gp, 0, none⟩)]] 67)))
        have HPa := Lib.hid (HPr.out.alloc (.cells #[.func (.func 44) #[] #[.pointer (some ⟨gw, 0, none⟩), .pointer (some ⟨gq, 0, none⟩)], .func (.func 46) #[] #[.pointer (some ⟨gw, 0, none⟩), .pointer (some ⟨gp, 0, none⟩)]] 67))
        have HWa := Lib.hid (below_al HW.out (.cells #[.func (.func 44) #[] #[.pointer (some ⟨gw, 0, none⟩), .pointer (some ⟨gq, 0, none⟩)], .func (.func 46) #[] #[.pointer (some ⟨gw, 0, none⟩), .pointer (some ⟨gp, 0, none⟩)]] 67))
        have HXa := Lib.hid HX
        have CA := Lib.hid (fun ww (h : RBox ww p A cap q gp gq gw gl gt) => rule1a_any (w := ww) h HOK.out)
        clear HPr HRr HFr HX
        go_wp2_with fail
        generalize wr.alloc (.cells #[.func (.func 44) #[] #[.pointer (some ⟨gw, 0, none⟩), .pointer (some ⟨gq, 0, none⟩)], .func (.func 46) #[] #[.pointer (some ⟨gw, 0, none⟩), .pointer (some ⟨gp, 0, none⟩)]] 67) = wa at *
        refine (CA.out _ HRa.out).mono ?_
        rintro e w3 ⟨rfl, b3⟩
        have HR3 := Lib.hid (HRa.out.below b3)
        have HP3 := Lib.hid (HPa.out.below b3 HPa.out.lt)
        have HX3 := Lib.hid (HXa.out.below b3 HXa.out.lt)
        have HW3 := Lib.hid (HWa.out.trans (b3.mono HWa.out.size))
        clear b3 x0 x1 k0 k1 klt HRa HPa HXa HWa HW
        by_cases hc : q.least ≤ TP.volN (MK.winQ q)
        · rw [decide_eq_true hc]
          have HK := Lib.hid (KR.out.1 hc)
          have CB1 := Lib.hid (fun ww (h : RBox ww p A cap q gp gq gw gl gt) => rule1b_any h HOK.out hc)
          have x0 := HX3.out.cell 0
          have x1 := HX3.out.cell 1
          simp only [List.getElem?_toArray, List.getElem?_cons_zero, List.getElem?_cons_succ] at x0 x1
          clear hc
          go_wp2_with fail
          refine (CB1.out _ HR3.out).mono ?_
          rintro e w4 ⟨rfl, b4⟩
          have HW4 := Lib.hid (HW3.out.trans (b4.mono HW3.out.size))
          obtain ⟨d0, d1, d2, d3, d4, d5, d6⟩ := (HP3.out.below b4 HP3.out.lt).cells
          clear b4 x0 x1
          generalize MK.rawN p q = raw at *
          go_wp2_with fail
          refine (CM2.out _).mono ?_
          rintro e w5 ⟨rfl, rfl⟩
          have HBF := Lib.hid (HB2.out.trans (HW4.out.mono HB2.out.size))
          go_wp2_with fail
          (try simp only [Exit.inBlock, Exit.then])
          go_ret3
          exact ⟨by rw [HK.out] <;> rfl, HBF.out⟩
        · rw [decide_eq_false hc]
          have N1 : Hid (0 < 1 → TP.volN (MK.winQ q) < q.least) := Lib.hid (fun _ => by omega)
          have N2 : Hid (1 < 1 → MK.both q = false) := Lib.hid (fun h => absurd h (by omega))
          have N3 : Hid (2 < 1 → q.ticks = []) := Lib.hid (fun h => absurd h (by omega))
          clear hc
          go_wp2_with fail
          go_roundw
          case rel => exact ⟨1, by omega, by go_num, Lib.hid (fun _ => N1.out (by omega)), N2, N3, HW3⟩
          case measure => simp [intOf]
      · have HPr := Lib.hid (HP2.out.below HW.out HP2.out.lt)
        have HRr := HR2.out.below HW.out
        have HFr := HF2.out.below HW.out HF2.out.lt
        have k0 : wr.cell? ⟨gr, 2, none⟩ = some (.func (.func 48) #[] #[.pointer (some ⟨gq, 0, none⟩)]) := HFr.cell 2
        have k1 : wr.cell? ⟨gr, 3, none⟩ = some (.func (.func 49) #[] #[.pointer (some ⟨gq, 0, none⟩), .pointer (some ⟨gp, 0, none⟩)]) := HFr.cell 3
        have klt := HFr.lt
        have HX := CB.new wr 67 #[.func (.func 48) #[] #[.pointer (some ⟨gq, 0, none⟩)], .func (.func 49) #[] #[.pointer (some ⟨gq, 0, none⟩), .pointer (some ⟨gp, 0, none⟩)]]
        have x0 := HX.cell 0
        have x1 := HX.cell 1
        simp only [List.getElem?_toArray, List.getElem?_cons_zero, List.getElem?_cons_succ] at x0 x1
        have HRa := Lib.hid (HRr.below (below_al (Below.refl _ _) (.cells #[.func (.func 48) #[] #[.pointer (some ⟨gq, 0, none⟩)], .func (.func 49) #[] #[.pointer (some ⟨gq, 0, none⟩), .pointer (some ⟨gp, 0, none⟩)]] 67)))
        have HPa := Lib.hid (HPr.out.alloc (.cells #[.func (.func 48) #[] #[.pointer (some ⟨gq, 0, none⟩)], .func (.func 49) #[] #[.pointer (some ⟨gq, 0, none⟩), .pointer (some ⟨gp, 0, none⟩)]] 67))
        have HWa := Lib.hid (below_al HW.out (.cells #[.func (.func 48) #[] #[.pointer (some ⟨gq, 0, none⟩)], .func (.func 49) #[] #[.pointer (some ⟨gq, 0, none⟩), .pointer (some ⟨gp, 0, none⟩)]] 67))
        have HXa := Lib.hid HX
        have CA := Lib.hid (fun ww (h : RBox ww p A cap q gp gq gw gl gt) => rule2a_any (w := ww) h)
        clear HPr HRr HFr HX
        go_wp2_with fail
        generalize wr.alloc (.cells #[.func (.func 48) #[] #[.pointer (some ⟨gq, 0, none⟩)], .func (.func 49) #[] #[.pointer (some ⟨gq, 0, none⟩), .pointer (some ⟨gp, 0, none⟩)]] 67) = wa at *
        refine (CA.out _ HRa.out).mono ?_
        rintro e w3 ⟨rfl, b3⟩
        have HR3 := Lib.hid (HRa.out.below b3)
        have HP3 := Lib.hid (HPa.out.below b3 HPa.out.lt)
        have HX3 := Lib.hid (HXa.out.below b3 HXa.out.lt)
        have HW3 := Lib.hid (HWa.out.trans (b3.mono HWa.out.size))
        clear b3 x0 x1 k0 k1 klt HRa HPa HXa HWa HW
        by_cases hc : MK.both q = true
        · rw [hc]
          have HK := Lib.hid (KR.out.2.1 (by first | exact H1.out (by omega) | exact Int.not_le.2 (H1.out (by omega))) hc)
          have CB1 := Lib.hid (fun ww (h : RBox ww p A cap q gp gq gw gl gt) => rule2b_any h HOK.out (Int.not_le.2 (H1.out (by omega))) hc)
          have x0 := HX3.out.cell 0
          have x1 := HX3.out.cell 1
          simp only [List.getElem?_toArray, List.getElem?_cons_zero, List.getElem?_cons_succ] at x0 x1
          clear hc
          go_wp2_with fail
          refine (CB1.out _ HR3.out).mono ?_
          rintro e w4 ⟨rfl, b4⟩
          have HW4 := Lib.hid (HW3.out.trans (b4.mono HW3.out.size))
          obtain ⟨d0, d1, d2, d3, d4, d5, d6⟩ := (HP3.out.below b4 HP3.out.lt).cells
          clear b4 x0 x1
          generalize MK.rawN p q = raw at *
          go_wp2_with fail
          refine (CM2.out _).mono ?_
          rintro e w5 ⟨rfl, rfl⟩
          have HBF := Lib.hid (HB2.out.trans (HW4.out.mono HB2.out.size))
          go_wp2_with fail
          (try simp only [Exit.inBlock, Exit.then])
          go_ret3
          exact ⟨by rw [HK.out] <;> rfl, HBF.out⟩
        · rw [Bool.eq_false_iff.2 hc]
          have N1 : Hid (0 < 2 → TP.volN (MK.winQ q) < q.least) := Lib.hid (fun _ => H1.out (by omega))
          have N2 : Hid (1 < 2 → MK.both q = false) := Lib.hid (fun _ => by simpa using hc)
          have N3 : Hid (2 < 2 → q.ticks = []) := Lib.hid (fun h => absurd h (by omega))
          clear hc
          go_wp2_with fail
          go_roundw
          case rel => exact ⟨2, by omega, by go_num, Lib.hid (fun _ => N1.out (by omega)), N2, N3, HW3⟩
          case measure => simp [intOf]
      · have HPr := Lib.hid (HP2.out.below HW.out HP2.out.lt)
        have HRr := HR2.out.below HW.out
        have HFr := HF2.out.below HW.out HF2.out.lt
        have k0 : wr.cell? ⟨gr, 4, none⟩ = some (.func (.func 51) #[] #[.pointer (some ⟨gt, 0, none⟩)]) := HFr.cell 4
        have k1 : wr.cell? ⟨gr, 5, none⟩ = some (.func (.func 52) #[] #[.pointer (some ⟨gl, 0, none⟩), .pointer (some ⟨gq, 0, none⟩)]) := HFr.cell 5
        have klt := HFr.lt
        have HX := CB.new wr 67 #[.func (.func 51) #[] #[.pointer (some ⟨gt, 0, none⟩)], .func (.func 52) #[] #[.pointer (some ⟨gl, 0, none⟩), .pointer (some ⟨gq, 0, none⟩)]]
        have x0 := HX.cell 0
        have x1 := HX.cell 1
        simp only [List.getElem?_toArray, List.getElem?_cons_zero, List.getElem?_cons_succ] at x0 x1
        have HRa := Lib.hid (HRr.below (below_al (Below.refl _ _) (.cells #[.func (.func 51) #[] #[.pointer (some ⟨gt, 0, none⟩)], .func (.func 52) #[] #[.pointer (some ⟨gl, 0, none⟩), .pointer (some ⟨gq, 0, none⟩)]] 67)))
        have HPa := Lib.hid (HPr.out.alloc (.cells #[.func (.func 51) #[] #[.pointer (some ⟨gt, 0, none⟩)], .func (.func 52) #[] #[.pointer (some ⟨gl, 0, none⟩), .pointer (some ⟨gq, 0, none⟩)]] 67))
        have HWa := Lib.hid (below_al HW.out (.cells #[.func (.func 51) #[] #[.pointer (some ⟨gt, 0, none⟩)], .func (.func 52) #[] #[.pointer (some ⟨gl, 0, none⟩), .pointer (some ⟨gq, 0, none⟩)]] 67))
        have HXa := Lib.hid HX
        have CA := Lib.hid (fun ww (h : RBox ww p A cap q gp gq gw gl gt) => rule3a_any (w := ww) h)
        clear HPr HRr HFr HX
        go_wp2_with fail
        generalize wr.alloc (.cells #[.func (.func 51) #[] #[.pointer (some ⟨gt, 0, none⟩)], .func (.func 52) #[] #[.pointer (some ⟨gl, 0, none⟩), .pointer (some ⟨gq, 0, none⟩)]] 67) = wa at *
        refine (CA.out _ HRa.out).mono ?_
        rintro e w3 ⟨rfl, b3⟩
        have HR3 := Lib.hid (HRa.out.below b3)
        have HP3 := Lib.hid (HPa.out.below b3 HPa.out.lt)
        have HX3 := Lib.hid (HXa.out.below b3 HXa.out.lt)
        have HW3 := Lib.hid (HWa.out.trans (b3.mono HWa.out.size))
        clear b3 x0 x1 k0 k1 klt HRa HPa HXa HWa HW
        by_cases hc : 0 < q.ticks.length
        · rw [decide_eq_true hc]
          have HK := Lib.hid (KR.out.2.2.1 (by first | exact H1.out (by omega) | exact Int.not_le.2 (H1.out (by omega))) (by first | exact H2.out (by omega) | (rw [H2.out (by omega)]; decide)) hc)
          have CB1 := Lib.hid (fun ww (h : RBox ww p A cap q gp gq gw gl gt) => rule3b_any h (Int.not_le.2 (H1.out (by omega))) (by rw [H2.out (by omega)]; decide) hc)
          have x0 := HX3.out.cell 0
          have x1 := HX3.out.cell 1
          simp only [List.getElem?_toArray, List.getElem?_cons_zero, List.getElem?_cons_succ] at x0 x1
          clear hc
          go_wp2_with fail
          refine (CB1.out _ HR3.out).mono ?_
          rintro e w4 ⟨rfl, b4⟩
          have HW4 := Lib.hid (HW3.out.trans (b4.mono HW3.out.size))
          obtain ⟨d0, d1, d2, d3, d4, d5, d6⟩ := (HP3.out.below b4 HP3.out.lt).cells
          clear b4 x0 x1
          generalize MK.rawN p q = raw at *
          go_wp2_with fail
          refine (CM2.out _).mono ?_
          rintro e w5 ⟨rfl, rfl⟩
          have HBF := Lib.hid (HB2.out.trans (HW4.out.mono HB2.out.size))
          go_wp2_with fail
          (try simp only [Exit.inBlock, Exit.then])
          go_ret3
          exact ⟨by rw [HK.out] <;> rfl, HBF.out⟩
        · rw [decide_eq_false hc]
          have N1 : Hid (0 < 3 → TP.volN (MK.winQ q) < q.least) := Lib.hid (fun _ => H1.out (by omega))
          have N2 : Hid (1 < 3 → MK.both q = false) := Lib.hid (fun _ => H2.out (by omega))
          have N3 : Hid (2 < 3 → q.ticks = []) := Lib.hid (fun _ => List.eq_nil_of_length_eq_zero (by omega))
          clear hc
          go_wp2_with fail
          go_roundw
          case rel => exact ⟨3, by omega, by go_num, Lib.hid (fun _ => N1.out (by omega)), N2, N3, HW3⟩
          case measure => simp [intOf]
      · have HPr := Lib.hid (HP2.out.below HW.out HP2.out.lt)
        have HRr := HR2.out.below HW.out
        have HFr := HF2.out.below HW.out HF2.out.lt
        have k0 : wr.cell? ⟨gr, 6, none⟩ = some (.func (.func 54) #[] #[]) := HFr.cell 6
        have k1 : wr.cell? ⟨gr, 7, none⟩ = some (.func (.func 55) #[] #[.pointer (some ⟨gp, 0, none⟩), .pointer (some ⟨gq, 0, none⟩)]) := HFr.cell 7
        have klt := HFr.lt
        have HX := CB.new wr 67 #[.func (.func 54) #[] #[], .func (.func 55) #[] #[.pointer (some ⟨gp, 0, none⟩), .pointer (some ⟨gq, 0, none⟩)]]
        have x0 := HX.cell 0
        have x1 := HX.cell 1
        simp only [List.getElem?_toArray, List.getElem?_cons_zero, List.getElem?_cons_succ] at x0 x1
        have HRa := Lib.hid (HRr.below (below_al (Below.refl _ _) (.cells #[.func (.func 54) #[] #[], .func (.func 55) #[] #[.pointer (some ⟨gp, 0, none⟩), .pointer (some ⟨gq, 0, none⟩)]] 67)))
        have HPa := Lib.hid (HPr.out.alloc (.cells #[.func (.func 54) #[] #[], .func (.func 55) #[] #[.pointer (some ⟨gp, 0, none⟩), .pointer (some ⟨gq, 0, none⟩)]] 67))
        have HWa := Lib.hid (below_al HW.out (.cells #[.func (.func 54) #[] #[], .func (.func 55) #[] #[.pointer (some ⟨gp, 0, none⟩), .pointer (some ⟨gq, 0, none⟩)]] 67))
        have HXa := Lib.hid HX
        have CA := Lib.hid (fun ww (h : RBox ww p A cap q gp gq gw gl gt) => rule4a_any (w := ww))
        clear HPr HRr HFr HX
        go_wp2_with fail
        generalize wr.alloc (.cells #[.func (.func 54) #[] #[], .func (.func 55) #[] #[.pointer (some ⟨gp, 0, none⟩), .pointer (some ⟨gq, 0, none⟩)]] 67) = wa at *
        refine (CA.out _ HRa.out).mono ?_
        rintro e w3 ⟨rfl, b3⟩
        have HR3 := Lib.hid (HRa.out.below b3)
        have HP3 := Lib.hid (HPa.out.below b3 HPa.out.lt)
        have HX3 := Lib.hid (HXa.out.below b3 HXa.out.lt)
        have HW3 := Lib.hid (HWa.out.trans (b3.mono HWa.out.size))
        clear b3 x0 x1 k0 k1 klt HRa HPa HXa HWa HW
        have HK := Lib.hid (KR.out.2.2.2 (by first | exact H1.out (by omega) | exact Int.not_le.2 (H1.out (by omega))) (by first | exact H2.out (by omega) | (rw [H2.out (by omega)]; decide)) (by first | exact H3.out (by omega) | (rw [H3.out (by omega)]; decide)))
        have CB1 := Lib.hid (fun ww (h : RBox ww p A cap q gp gq gw gl gt) => rule4b_any h HPQ.out HOK.out (Int.not_le.2 (H1.out (by omega))) (by rw [H2.out (by omega)]; decide) (by rw [H3.out (by omega)]; decide))
        have x0 := HX3.out.cell 0
        have x1 := HX3.out.cell 1
        simp only [List.getElem?_toArray, List.getElem?_cons_zero, List.getElem?_cons_succ] at x0 x1
        go_wp2_with fail
        refine (CB1.out _ HR3.out).mono ?_
        rintro e w4 ⟨rfl, b4⟩
        have HW4 := Lib.hid (HW3.out.trans (b4.mono HW3.out.size))
        obtain ⟨d0, d1, d2, d3, d4, d5, d6⟩ := (HP3.out.below b4 HP3.out.lt).cells
        clear b4 x0 x1
        generalize MK.rawN p q = raw at *
        go_wp2_with fail
        refine (CM2.out _).mono ?_
        rintro e w5 ⟨rfl, rfl⟩
        have HBF := Lib.hid (HB2.out.trans (HW4.out.mono HB2.out.size))
        go_wp2_with fail
        (try simp only [Exit.inBlock, Exit.then])
        go_ret3
        exact ⟨by rw [HK.out] <;> rfl, HBF.out⟩
  · have e1 : MK.priceN p q = 0 := by unfold MK.priceN; rw [if_neg hk]
    have e2 : MK.ruleR p q = 0 := by unfold MK.ruleR; rw [if_neg hk]
    rw [e1, e2]
    generalize MK.qE p q = x at *
    have hne : (x != 0) = true := by simpa using hk
    clear hk e1 e2 hI hp hq
    go_enter Try.func5, Try.ntmps5
    go_wp2_with fail
    generalize (w.alloc (.cells #[.string p.name, .int .i64 p.cur, .int .i64 p.mult, .int .i64 p.tick, .int .i64 p.low, .int .i64 p.high, .bool p.phys] 23)).alloc (.cells #[.slice A q.ticks.length cap, .int .i64 q.from_, .int .i64 q.to_, .int .i64 q.least, .int .i64 q.bid, .int .i64 q.ask, .int .i64 q.before, .int .i64 q.move] 26) = w0 at *
    refine (CC.out _ HI.out).mono ?_
    rintro e w1 ⟨rfl, b1⟩
    have HB1 := Lib.hid (HB0.out.trans (b1.mono HB0.out.size))
    clear b1 c0 c1 c2 c3 c4 c5 c6 c7 d0 d1 d2 d3 d4 d5 d6
    go_wp2_with fail
    go_ret3
    exact ⟨rfl, HB1.out⟩
end Go.Proofs.Ytagmknahmkniaac
