/- Put together: MrkI, WMarkPrices, SizedRec, OpenArr, OpenTap, OpenProd. -/
import Derived.Test.YtaegapcccboinaaBun10
import Derived.Deep.RegionHeld3
import Derived.Test.YtaegapcccboinaaBun1
import Derived.SizedLaws
import Derived.ProofKit
import Derived.Test.YtaegapcccboinaaBun3
import Derived.OpenShut
import Derived.ShutString
import Derived.ChangeOld
import Derived.Laws.IdiomArrays
import Derived.Lib.SmallJoins
/- Contracts of layer 18's reference: made, Price. -/
namespace Go.Proofs.Ytaegapcccboinaa
open Go.RowKit Go.Recs
set_option linter.unusedVariables false
set_option linter.unusedSimpArgs false
set_option maxRecDepth 100000 in
set_option maxHeartbeats 16000000 in
theorem rmade18_any (p : QM.Prod) (hp : prodQ p) (A : Option Addr) (cap : Nat) (q : MK.Quote) (hq : quoteQ q) (hok : MK.Ok p q) (w : World) (hI : Ticks w A q.ticks) :
    Calls Try.prog 52 #[prodA p, qA A cap q] w fun e w' => e = .returned (.tuple #[.int .i64 (MK.rawN p q), .int .i64 (MK.ruleN q)]) ∧ Below w.heap.size w w' := by
  have hlen := hI.len
  have hl : q.ticks.length ≤ 1048576 := by have := (TP.good hok.tape).len; omega
  have HB0 := Lib.hid (below_al (below_al (Below.refl w.heap.size w) (.cells #[.string p.name, .int .i64 p.cur, .int .i64 p.mult, .int .i64 p.tick, .int .i64 p.low, .int .i64 p.high, .bool p.phys] 42)) (.cells (qC A cap q) 44))
  have HP0 : Hid (PBox ((w.alloc (.cells #[.string p.name, .int .i64 p.cur, .int .i64 p.mult, .int .i64 p.tick, .int .i64 p.low, .int .i64 p.high, .bool p.phys] 42)).alloc (.cells (qC A cap q) 44)) w.heap.size p) := Lib.hid ((PBox.new w p).alloc _)
  have HQ0 := Lib.hid (CB.new1 w (.cells #[.string p.name, .int .i64 p.cur, .int .i64 p.mult, .int .i64 p.tick, .int .i64 p.low, .int .i64 p.high, .bool p.phys] 42) 44 (qC A cap q))
  have HI := Lib.hid (hI.below HB0.out)
  have CW := Lib.hid (fun ww h => rwindow17_any A q.ticks q.ticks.length cap q.from_ q.to_ rfl hl ww h)
  have hwq : TP.win q.ticks q.from_ q.to_ = MK.winQ q := rfl
  rw [hwq] at CW
  have HWQ : Hid (∀ x ∈ MK.winQ q, tickQ x) := Lib.hid (fun x hx => hI.2 x (TP.win_mem.1 hx).1)
  have CV := Lib.hid (fun B k ww h => rvolume17_any B (MK.winQ q) (MK.winQ q).length k rfl ww h)
  rw [MK.win_ok hok] at CV
  obtain ⟨c0, c1, c2, c3, c4, c5, c6, c7⟩ := quote_cells HQ0.out
  have hbf := MK.price_in hok.before
  have hmv := hok.move
  obtain ⟨bf1, bf2⟩ := hbf; obtain ⟨mv1, mv2⟩ := hmv
  have HOK := Lib.hid hok
  have HPQ := Lib.hid hp
  clear hI hwq hok hp
  by_cases g1 : q.least ≤ TP.volN (MK.winQ q)
  · have e1 : MK.rawN p q = TP.vwN (MK.winQ q) p.tick 5 := by unfold MK.rawN; rw [if_pos g1]
    have e2 : MK.ruleN q = 1 := by unfold MK.ruleN; rw [if_pos g1]
    have CX := fun B k ww h => rvwap17_any B (MK.winQ q) (MK.winQ q).length k p.tick 5 rfl ww h
    rw [(MK.win_vw HOK.out g1).1] at CX
    have CX := Lib.hid CX
    rw [e1, e2]
    generalize TP.vwN (MK.winQ q) p.tick 5 = raw at *
    clear e1 e2
    go_enter Try.func52, Try.ntmps52
    go_wp2_with fail
    generalize (w.alloc (.cells #[.string p.name, .int .i64 p.cur, .int .i64 p.mult, .int .i64 p.tick, .int .i64 p.low, .int .i64 p.high, .bool p.phys] 42)).alloc (.cells #[.slice A q.ticks.length cap, .int .i64 q.from_, .int .i64 q.to_, .int .i64 q.least, .int .i64 q.bid, .int .i64 q.ask, .int .i64 q.before, .int .i64 q.move] 44) = w0 at *
    refine (CW.out _ HI.out).mono ?_
    rintro e w1 ⟨v, rfl, ho, b1⟩
    obtain ⟨B, k, rfl, hT, _⟩ := OwnT.tr (f := tickV) (Q := tickQ) ho HWQ.out
    have HB1 := Lib.hid (HB0.out.trans (b1.mono HB0.out.size))
    have HP1 := Lib.hid (HP0.out.below b1 HP0.out.lt)
    have HQ1 := Lib.hid (HQ0.out.below b1 HQ0.out.lt)
    have HI1 := Lib.hid (HI.out.below b1)
    have HT1 := Lib.hid hT
    clear b1 c0 c1 c2 c3 c4 c5 c6 c7 HP0 HQ0 HI HB0 ho hT HWQ CW
    obtain ⟨c0, c1, c2, c3, c4, c5, c6, c7⟩ := quote_cells HQ1.out
    obtain ⟨d0, d1, d2, d3, d4, d5, d6⟩ := HP1.out.cells
    go_wp2_with fail
    refine (CV.out B k _ HT1.out).mono ?_
    rintro e w2 ⟨rfl, nd, rfl⟩
    go_wp2_with fail
    refine (CX.out B k _ (HT1.out.drewN nd)).mono ?_
    rintro e w3 ⟨rfl, nd2, rfl⟩
    go_wp2_with fail
    go_ret2
    exact ⟨rfl, by first | exact below_drewN HB1.out _ | exact below_drewN (below_drewN HB1.out nd) nd2⟩
  · have g1' : TP.volN (MK.winQ q) < q.least := by omega
    cases hb : MK.both q
    · have hbb := hb
      unfold MK.both at hbb
      by_cases g3 : 0 < q.ticks.length
      · have e1 : MK.rawN p q = MK.held (TP.lastT q.ticks).price q := by unfold MK.rawN; rw [if_neg g1, if_neg (by rw [hb]; decide), if_pos g3]
        have e2 : MK.ruleN q = 3 := by unfold MK.ruleN; rw [if_neg g1, if_neg (by rw [hb]; decide), if_pos g3]
        have e3 : TP.lastT q.ticks = TP.tAt q.ticks (q.ticks.length - 1) := by unfold TP.lastT; rw [if_neg (by omega)]
        have HLT := Lib.hid e3
        have key : ∀ y : Int, (∀ t : TP.Tick, TP.tAt q.ticks (q.ticks.length - 1) = t → y = MK.held t.price q) → MK.rawN p q = y := fun y h => by rw [e1, e3, h _ rfl]
        rw [e2]
        generalize MK.rawN p q = raw at *
        have HK := Lib.hid key
        clear e1 e2 e3 key g1 hb
        go_enter Try.func52, Try.ntmps52
        go_wp2_with fail
        generalize (w.alloc (.cells #[.string p.name, .int .i64 p.cur, .int .i64 p.mult, .int .i64 p.tick, .int .i64 p.low, .int .i64 p.high, .bool p.phys] 42)).alloc (.cells #[.slice A q.ticks.length cap, .int .i64 q.from_, .int .i64 q.to_, .int .i64 q.least, .int .i64 q.bid, .int .i64 q.ask, .int .i64 q.before, .int .i64 q.move] 44) = w0 at *
        refine (CW.out _ HI.out).mono ?_
        rintro e w1 ⟨v, rfl, ho, b1⟩
        obtain ⟨B, k, rfl, hT, _⟩ := OwnT.tr (f := tickV) (Q := tickQ) ho HWQ.out
        have HB1 := Lib.hid (HB0.out.trans (b1.mono HB0.out.size))
        have HP1 := Lib.hid (HP0.out.below b1 HP0.out.lt)
        have HQ1 := Lib.hid (HQ0.out.below b1 HQ0.out.lt)
        have HI1 := Lib.hid (HI.out.below b1)
        have HT1 := Lib.hid hT
        clear b1 c0 c1 c2 c3 c4 c5 c6 c7 HP0 HQ0 HI HB0 ho hT HWQ CW
        obtain ⟨c0, c1, c2, c3, c4, c5, c6, c7⟩ := quote_cells HQ1.out
        obtain ⟨d0, d1, d2, d3, d4, d5, d6⟩ := HP1.out.cells
        go_wp2_with fail
        refine (CV.out B k _ HT1.out).mono ?_
        rintro e w2 ⟨rfl, nd, rfl⟩
        obtain ⟨j, hj⟩ : ∃ j, q.ticks.length - 1 = j := ⟨_, rfl⟩
        have ew : wrap64 ((q.ticks.length : Int) - 1) = (j : Int) := by rw [show (q.ticks.length : Int) - 1 = (j : Int) by omega]; exact IntWalk.wrap64_in (j : Int) (by omega)
        have ew2 : IntKind.i64.wrap ((q.ticks.length : Int) - 1) = (j : Int) := by rw [show (q.ticks.length : Int) - 1 = (j : Int) by omega]; exact IntWalk.i64_in (j : Int) (by omega)
        have hjl : j < q.ticks.length := by omega
        obtain ⟨b, off, t, rfl, hb, HV, ⟨q0, q1, q2⟩, f0, f1, f2⟩ := ticks_get (HI1.out.drewN nd) hjl
        have HK2 : Hid (∀ y : Int, y = MK.held t.price q → raw = y) := Lib.hid (fun y h => HK.out y (fun t' ht' => by rw [hj, HV.out] at ht'; rw [← ht']; exact h))
        have HHJ := Lib.hid hj
        clear hj HK HV HLT q0 q1 q2
        cases z1 : (q.bid != 0)
        · have y1 : q.bid = 0 := by simpa using z1
          cases z2 : (q.ask != 0)
          · have y2 : q.ask = 0 := by simpa using z2
            have HR : Hid (raw = t.price) := Lib.hid (HK2.out _ (by unfold MK.held MK.up; rw [if_pos y2, if_pos y1]))
            clear y1 y2 hbb
            go_wp2_with fail
            go_ret2
            exact ⟨by rw [HR.out] <;> rfl, below_drewN HB1.out nd⟩
          · have y2 : ¬ q.ask = 0 := by simpa using z2
            by_cases g5 : q.ask < t.price
            · have HR : Hid (raw = q.ask) := Lib.hid (HK2.out _ (by unfold MK.held MK.up; rw [if_neg y2, if_pos y1, if_pos g5]))
              clear y1 y2 hbb
              go_wp2_with fail
              go_ret2
              exact ⟨by rw [HR.out] <;> rfl, below_drewN HB1.out nd⟩
            · have d5 : decide (q.ask < t.price) = false := decide_eq_false g5
              have HR : Hid (raw = t.price) := Lib.hid (HK2.out _ (by unfold MK.held MK.up; rw [if_neg y2, if_pos y1, if_neg g5]))
              clear y1 y2 hbb
              go_wp2_with fail
              go_ret2
              exact ⟨by rw [HR.out] <;> rfl, below_drewN HB1.out nd⟩
        · have y1 : ¬ q.bid = 0 := by simpa using z1
          rw [z1] at hbb
          have z2 : (q.ask != 0) = false := by simpa using hbb
          have y2 : q.ask = 0 := by simpa using z2
          by_cases g6 : t.price < q.bid
          · have HR : Hid (raw = q.bid) := Lib.hid (HK2.out _ (by unfold MK.held MK.up; rw [if_pos y2, if_neg y1, if_pos g6]))
            clear y1 y2 hbb
            go_wp2_with fail
            go_ret2
            exact ⟨by rw [HR.out] <;> rfl, below_drewN HB1.out nd⟩
          · have d6 : decide (t.price < q.bid) = false := decide_eq_false g6
            have HR : Hid (raw = t.price) := Lib.hid (HK2.out _ (by unfold MK.held MK.up; rw [if_pos y2, if_neg y1, if_neg g6]))
            clear y1 y2 hbb
            go_wp2_with fail
            go_ret2
            exact ⟨by rw [HR.out] <;> rfl, below_drewN HB1.out nd⟩
      · have e1 : MK.rawN p q = QM.roundN p (MK.moved q) 5 := by unfold MK.rawN; rw [if_neg g1, if_neg (by rw [hb]; decide), if_neg g3]
        have e2 : MK.ruleN q = 4 := by unfold MK.ruleN; rw [if_neg g1, if_neg (by rw [hb]; decide), if_neg g3]
        have CL := Lib.hid (fun ww => rclamp_any (q.before + q.move) (-16777216) 16777216 ww)
        have CR := fun ww => rqround_any p (MK.moved q) 5 HPQ.out ww
        rw [MK.round_fine HOK.out] at CR
        have CR := Lib.hid CR
        have e3 : CM.clamp (q.before + q.move) (-16777216) 16777216 = MK.moved q := rfl
        rw [e3] at CL
        rw [e1, e2]
        generalize QM.roundN p (MK.moved q) 5 = raw at *
        generalize MK.moved q = mo at *
        have CLa : Hid (∀ (a : Int) (ww : World), a = q.before + q.move → Calls Try.prog 53 #[.int .i64 a, .int .i64 (-16777216), .int .i64 16777216] ww fun e w' => e = .returned (.int .i64 mo) ∧ ww = w') := Lib.hid (fun a ww h => by subst h; exact CL.out ww)
        clear CL
        have g4 : ¬ (0 : Int) < (q.ticks.length : Int) := by omega
        clear e1 e2 e3 g1 hb g3
        go_enter Try.func52, Try.ntmps52
        go_wp2_with fail
        generalize (w.alloc (.cells #[.string p.name, .int .i64 p.cur, .int .i64 p.mult, .int .i64 p.tick, .int .i64 p.low, .int .i64 p.high, .bool p.phys] 42)).alloc (.cells #[.slice A q.ticks.length cap, .int .i64 q.from_, .int .i64 q.to_, .int .i64 q.least, .int .i64 q.bid, .int .i64 q.ask, .int .i64 q.before, .int .i64 q.move] 44) = w0 at *
        refine (CW.out _ HI.out).mono ?_
        rintro e w1 ⟨v, rfl, ho, b1⟩
        obtain ⟨B, k, rfl, hT, _⟩ := OwnT.tr (f := tickV) (Q := tickQ) ho HWQ.out
        have HB1 := Lib.hid (HB0.out.trans (b1.mono HB0.out.size))
        have HP1 := Lib.hid (HP0.out.below b1 HP0.out.lt)
        have HQ1 := Lib.hid (HQ0.out.below b1 HQ0.out.lt)
        have HI1 := Lib.hid (HI.out.below b1)
        have HT1 := Lib.hid hT
        clear b1 c0 c1 c2 c3 c4 c5 c6 c7 HP0 HQ0 HI HB0 ho hT HWQ CW
        obtain ⟨c0, c1, c2, c3, c4, c5, c6, c7⟩ := quote_cells HQ1.out
        obtain ⟨d0, d1, d2, d3, d4, d5, d6⟩ := HP1.out.cells
        go_wp2_with fail
        refine (CV.out B k _ HT1.out).mono ?_
        rintro e w2 ⟨rfl, nd, rfl⟩
        have HSX : Hid (∀ ww, Below (w1.drewN nd).heap.size (w1.drewN nd) ww → (ww.cell? ⟨w.heap.size, 0, none⟩ = some (.string p.name) ∧ ww.cell? ⟨w.heap.size, 1, none⟩ = some (.int .i64 p.cur) ∧ ww.cell? ⟨w.heap.size, 2, none⟩ = some (.int .i64 p.mult) ∧ ww.cell? ⟨w.heap.size, 3, none⟩ = some (.int .i64 p.tick) ∧ ww.cell? ⟨w.heap.size, 4, none⟩ = some (.int .i64 p.low) ∧ ww.cell? ⟨w.heap.size, 5, none⟩ = some (.int .i64 p.high) ∧ ww.cell? ⟨w.heap.size, 6, none⟩ = some (.bool p.phys)) ∧ (ww.cell? ⟨w.heap.size + 1, 0, none⟩ = some (.slice A q.ticks.length cap) ∧ ww.cell? ⟨w.heap.size + 1, 1, none⟩ = some (.int .i64 q.from_) ∧ ww.cell? ⟨w.heap.size + 1, 2, none⟩ = some (.int .i64 q.to_) ∧ ww.cell? ⟨w.heap.size + 1, 3, none⟩ = some (.int .i64 q.least) ∧ ww.cell? ⟨w.heap.size + 1, 4, none⟩ = some (.int .i64 q.bid) ∧ ww.cell? ⟨w.heap.size + 1, 5, none⟩ = some (.int .i64 q.ask) ∧ ww.cell? ⟨w.heap.size + 1, 6, none⟩ = some (.int .i64 q.before) ∧ ww.cell? ⟨w.heap.size + 1, 7, none⟩ = some (.int .i64 q.move))) := Lib.hid (fun ww h => ⟨((show PBox (w1.drewN nd) w.heap.size p from HP1.out).below h HP1.out.lt).cells, quote_cells ((HQ1.out.drewN nd).below h HQ1.out.lt)⟩)
        have HB2 := Lib.hid (below_drewN HB1.out nd)
        clear c0 c1 c2 c3 c4 c5 c6 c7 d0 d1 d2 d3 d4 d5 d6
        generalize w1.drewN nd = w2 at *
        obtain ⟨⟨d0, d1, d2, d3, d4, d5, d6⟩, c0, c1, c2, c3, c4, c5, c6, c7⟩ := HSX.out _ (Below.refl _ _)
        have HSY : Hid (∀ ww, Below w2.heap.size w2 ww → (ww.cell? ⟨w.heap.size, 0, none⟩ = some (.string p.name) ∧ ww.cell? ⟨w.heap.size, 1, none⟩ = some (.int .i64 p.cur) ∧ ww.cell? ⟨w.heap.size, 2, none⟩ = some (.int .i64 p.mult) ∧ ww.cell? ⟨w.heap.size, 3, none⟩ = some (.int .i64 p.tick) ∧ ww.cell? ⟨w.heap.size, 4, none⟩ = some (.int .i64 p.low) ∧ ww.cell? ⟨w.heap.size, 5, none⟩ = some (.int .i64 p.high) ∧ ww.cell? ⟨w.heap.size, 6, none⟩ = some (.bool p.phys)) ∧ (ww.cell? ⟨w.heap.size + 1, 6, none⟩ = some (.int .i64 q.before) ∧ ww.cell? ⟨w.heap.size + 1, 7, none⟩ = some (.int .i64 q.move))) := Lib.hid (fun ww h => ⟨(HSX.out ww h).1, (HSX.out ww h).2.2.2.2.2.2.2⟩)
        have hmb : -9223372036854775808 ≤ q.before + q.move ∧ q.before + q.move ≤ 9223372036854775807 := by omega
        obtain ⟨hmb1, hmb2⟩ := hmb
        clear HSX HQ1 HP1 HI1 HT1 HB1 CV hq hlen hl HOK HPQ
        have HBw : Hid (Below w2.heap.size w2 w2.drew) := Lib.hid (Below.refl _ _).drew
        cases z1 : (q.bid != 0)
        · clear hbb
          go_wp2_with fail
          go_region_held3 (fun ww => (ww.cell? ⟨w.heap.size, 0, none⟩ = some (.string p.name) ∧ ww.cell? ⟨w.heap.size, 1, none⟩ = some (.int .i64 p.cur) ∧ ww.cell? ⟨w.heap.size, 2, none⟩ = some (.int .i64 p.mult) ∧ ww.cell? ⟨w.heap.size, 3, none⟩ = some (.int .i64 p.tick) ∧ ww.cell? ⟨w.heap.size, 4, none⟩ = some (.int .i64 p.low) ∧ ww.cell? ⟨w.heap.size, 5, none⟩ = some (.int .i64 p.high) ∧ ww.cell? ⟨w.heap.size, 6, none⟩ = some (.bool p.phys)) ∧ (ww.cell? ⟨w.heap.size + 1, 6, none⟩ = some (.int .i64 q.before) ∧ ww.cell? ⟨w.heap.size + 1, 7, none⟩ = some (.int .i64 q.move)))
            (with_reducible exact HSY.out _ HBw.out)
            (first
              | (go_at_call 53; refine (CLa.out _ _ (by first | rfl | (rw [IntWalk.wrap64_in _ (by omega)]) | (rw [IntWalk.i64_in _ (by omega)]) | omega)).mono ?_; rintro e w6 ⟨rfl, rfl⟩)
              | (go_at_call 97; refine (CR.out _).mono ?_; rintro e w6 ⟨rfl, b6⟩; replace HBw := Lib.hid (HBw.out.trans (b6.mono HBw.out.size)); clear b6))
          all_goals (
            have HBF := Lib.hid (HB2.out.trans (HBw.out.mono HB2.out.size))
            clear HSY HBw
            go_wp2_with fail
            go_ret2
            exact ⟨rfl, HBF.out⟩)
        · rw [z1] at hbb
          have z2 : (q.ask != 0) = false := by simpa using hbb
          clear hbb
          go_wp2_with fail
          go_region_held3 (fun ww => (ww.cell? ⟨w.heap.size, 0, none⟩ = some (.string p.name) ∧ ww.cell? ⟨w.heap.size, 1, none⟩ = some (.int .i64 p.cur) ∧ ww.cell? ⟨w.heap.size, 2, none⟩ = some (.int .i64 p.mult) ∧ ww.cell? ⟨w.heap.size, 3, none⟩ = some (.int .i64 p.tick) ∧ ww.cell? ⟨w.heap.size, 4, none⟩ = some (.int .i64 p.low) ∧ ww.cell? ⟨w.heap.size, 5, none⟩ = some (.int .i64 p.high) ∧ ww.cell? ⟨w.heap.size, 6, none⟩ = some (.bool p.phys)) ∧ (ww.cell? ⟨w.heap.size + 1, 6, none⟩ = some (.int .i64 q.before) ∧ ww.cell? ⟨w.heap.size + 1, 7, none⟩ = some (.int .i64 q.move)))
            (with_reducible exact HSY.out _ HBw.out)
            (first
              | (go_at_call 53; refine (CLa.out _ _ (by first | rfl | (rw [IntWalk.wrap64_in _ (by omega)]) | (rw [IntWalk.i64_in _ (by omega)]) | omega)).mono ?_; rintro e w6 ⟨rfl, rfl⟩)
              | (go_at_call 97; refine (CR.out _).mono ?_; rintro e w6 ⟨rfl, b6⟩; replace HBw := Lib.hid (HBw.out.trans (b6.mono HBw.out.size)); clear b6))
          all_goals (
            have HBF := Lib.hid (HB2.out.trans (HBw.out.mono HB2.out.size))
            clear HSY HBw
            go_wp2_with fail
            go_ret2
            exact ⟨rfl, HBF.out⟩)
    · have e1 : MK.rawN p q = MK.midN q.bid q.ask p.tick := by unfold MK.rawN; rw [if_neg g1, if_pos hb]
      have e2 : MK.ruleN q = 2 := by unfold MK.ruleN; rw [if_neg g1, if_pos hb]
      have CX := Lib.hid (fun ww => rmid18_any q.bid q.ask p.tick ww)
      rw [e1, e2]
      unfold MK.both at hb
      rw [Bool.and_eq_true] at hb
      obtain ⟨z1, z2⟩ := hb
      generalize MK.midN q.bid q.ask p.tick = raw at *
      clear e1 e2 g1
      go_enter Try.func52, Try.ntmps52
      go_wp2_with fail
      generalize (w.alloc (.cells #[.string p.name, .int .i64 p.cur, .int .i64 p.mult, .int .i64 p.tick, .int .i64 p.low, .int .i64 p.high, .bool p.phys] 42)).alloc (.cells #[.slice A q.ticks.length cap, .int .i64 q.from_, .int .i64 q.to_, .int .i64 q.least, .int .i64 q.bid, .int .i64 q.ask, .int .i64 q.before, .int .i64 q.move] 44) = w0 at *
      refine (CW.out _ HI.out).mono ?_
      rintro e w1 ⟨v, rfl, ho, b1⟩
      obtain ⟨B, k, rfl, hT, _⟩ := OwnT.tr (f := tickV) (Q := tickQ) ho HWQ.out
      have HB1 := Lib.hid (HB0.out.trans (b1.mono HB0.out.size))
      have HP1 := Lib.hid (HP0.out.below b1 HP0.out.lt)
      have HQ1 := Lib.hid (HQ0.out.below b1 HQ0.out.lt)
      have HI1 := Lib.hid (HI.out.below b1)
      have HT1 := Lib.hid hT
      clear b1 c0 c1 c2 c3 c4 c5 c6 c7 HP0 HQ0 HI HB0 ho hT HWQ CW
      obtain ⟨c0, c1, c2, c3, c4, c5, c6, c7⟩ := quote_cells HQ1.out
      obtain ⟨d0, d1, d2, d3, d4, d5, d6⟩ := HP1.out.cells
      go_wp2_with fail
      refine (CV.out B k _ HT1.out).mono ?_
      rintro e w2 ⟨rfl, nd, rfl⟩
      go_wp2_with fail
      refine (CX.out _).mono ?_
      rintro e w3 ⟨rfl, b3⟩
      have HBF := Lib.hid ((below_drewN HB1.out nd).trans (b3.mono (below_drewN HB1.out nd).size))
      clear b3
      go_wp2_with fail
      go_ret2
      exact ⟨rfl, HBF.out⟩
set_option maxRecDepth 100000 in
set_option maxHeartbeats 8000000 in
theorem rprice18_any (p : QM.Prod) (hp : prodQ p) (A : Option Addr) (cap : Nat) (q : MK.Quote) (hq : quoteQ q) (w : World) (hI : Ticks w A q.ticks) :
    Calls Try.prog 22 #[prodA p, qA A cap q] w fun e w' => e = .returned (.tuple #[.int .i64 (MK.priceN p q), .int .i64 (MK.ruleR p q), .int .i64 (MK.qE p q)]) ∧ Below w.heap.size w w' := by
  have CC := Lib.hid (fun ww h => rmcheck18_any p hp A cap q hq ww h)
  have HB0 := Lib.hid (below_al (below_al (Below.refl w.heap.size w) (.cells #[.string p.name, .int .i64 p.cur, .int .i64 p.mult, .int .i64 p.tick, .int .i64 p.low, .int .i64 p.high, .bool p.phys] 42)) (.cells (qC A cap q) 44))
  have HP0 : Hid (PBox ((w.alloc (.cells #[.string p.name, .int .i64 p.cur, .int .i64 p.mult, .int .i64 p.tick, .int .i64 p.low, .int .i64 p.high, .bool p.phys] 42)).alloc (.cells (qC A cap q) 44)) w.heap.size p) := Lib.hid ((PBox.new w p).alloc _)
  have HQ0 := Lib.hid (CB.new1 w (.cells #[.string p.name, .int .i64 p.cur, .int .i64 p.mult, .int .i64 p.tick, .int .i64 p.low, .int .i64 p.high, .bool p.phys] 42) 44 (qC A cap q))
  have HI := Lib.hid (hI.below HB0.out)
  obtain ⟨c0, c1, c2, c3, c4, c5, c6, c7⟩ := quote_cells HQ0.out
  obtain ⟨d0, d1, d2, d3, d4, d5, d6⟩ := HP0.out.cells
  by_cases hk : MK.qE p q = 0
  · have hok := MK.ok_of hk
    have CR := Lib.hid (fun ww h => rmade18_any p hp A cap q hq hok ww h)
    have CLP := Lib.hid (fun ww => rclamp_any (MK.rawN p q) p.low p.high ww)
    have e1 : MK.priceN p q = CM.clamp (MK.rawN p q) p.low p.high := by unfold MK.priceN; rw [if_pos hk]
    have e2 : MK.ruleR p q = MK.ruleN q := by unfold MK.ruleR; rw [if_pos hk]
    rw [e1, e2]
    rw [hk] at CC ⊢
    generalize MK.ruleN q = rn at *
    clear hk hok e1 e2 hI hp hq
    generalize hcl : CM.clamp (MK.rawN p q) p.low p.high = cl at *
    clear hcl
    generalize MK.rawN p q = raw at *
    go_enter Try.func22, Try.ntmps22
    go_wp2_with fail
    generalize (w.alloc (.cells #[.string p.name, .int .i64 p.cur, .int .i64 p.mult, .int .i64 p.tick, .int .i64 p.low, .int .i64 p.high, .bool p.phys] 42)).alloc (.cells #[.slice A q.ticks.length cap, .int .i64 q.from_, .int .i64 q.to_, .int .i64 q.least, .int .i64 q.bid, .int .i64 q.ask, .int .i64 q.before, .int .i64 q.move] 44) = w0 at *
    refine (CC.out _ HI.out).mono ?_
    rintro e w1 ⟨rfl, b1⟩
    have HB1 := Lib.hid (HB0.out.trans (b1.mono HB0.out.size))
    have HP1 := Lib.hid (HP0.out.below b1 HP0.out.lt)
    have HQ1 := Lib.hid (HQ0.out.below b1 HQ0.out.lt)
    have HI1 := Lib.hid (HI.out.below b1)
    clear b1 c0 c1 c2 c3 c4 c5 c6 c7 d0 d1 d2 d3 d4 d5 d6 HP0 HQ0 HI HB0 CC
    obtain ⟨c0, c1, c2, c3, c4, c5, c6, c7⟩ := quote_cells HQ1.out
    obtain ⟨d0, d1, d2, d3, d4, d5, d6⟩ := HP1.out.cells
    go_wp2_with fail
    refine (CR.out _ HI1.out).mono ?_
    rintro e w2 ⟨rfl, b2⟩
    have HB2 := Lib.hid (HB1.out.trans (b2.mono HB1.out.size))
    have HP2 := Lib.hid (HP1.out.below b2 HP1.out.lt)
    clear b2 c0 c1 c2 c3 c4 c5 c6 c7 d0 d1 d2 d3 d4 d5 d6 HP1 HQ1 HI1 HB1 CR
    obtain ⟨d0, d1, d2, d3, d4, d5, d6⟩ := HP2.out.cells
    go_wp2_with fail
    refine (CLP.out _).mono ?_
    rintro e w5 ⟨rfl, rfl⟩
    go_wp2_with fail
    go_ret3
    exact ⟨rfl, HB2.out⟩
  · have e1 : MK.priceN p q = 0 := by unfold MK.priceN; rw [if_neg hk]
    have e2 : MK.ruleR p q = 0 := by unfold MK.ruleR; rw [if_neg hk]
    rw [e1, e2]
    generalize MK.qE p q = x at *
    have hne : (x != 0) = true := by simpa using hk
    clear hk e1 e2 hI hp hq
    go_enter Try.func22, Try.ntmps22
    go_wp2_with fail
    generalize (w.alloc (.cells #[.string p.name, .int .i64 p.cur, .int .i64 p.mult, .int .i64 p.tick, .int .i64 p.low, .int .i64 p.high, .bool p.phys] 42)).alloc (.cells #[.slice A q.ticks.length cap, .int .i64 q.from_, .int .i64 q.to_, .int .i64 q.least, .int .i64 q.bid, .int .i64 q.ask, .int .i64 q.before, .int .i64 q.move] 44) = w0 at *
    refine (CC.out _ HI.out).mono ?_
    rintro e w1 ⟨rfl, b1⟩
    have HB1 := Lib.hid (HB0.out.trans (b1.mono HB0.out.size))
    clear b1 c0 c1 c2 c3 c4 c5 c6 c7 d0 d1 d2 d3 d4 d5 d6
    go_wp2_with fail
    go_ret3
    exact ⟨rfl, HB1.out⟩
end Go.Proofs.Ytaegapcccboinaa

namespace Go.Proofs.Ytaegapcccboinaa.markPrices
open Go.RowKit Go.Recs
set_option linter.unusedVariables false
set_option maxHeartbeats 8000000 in
set_option maxRecDepth 100000 in
theorem walk (p : QM.Prod) (A : Option Addr) (cap : Nat) (q : MK.Quote) (w : World) (hp : prodQ p) (hq : Ticks w A q.ticks ∧ quoteQ q) :
    Calls Try.prog 7 #[.agg #[.string p.name, .int .i64 p.cur, .int .i64 p.mult, .int .i64 p.tick, .int .i64 p.low, .int .i64 p.high, .bool p.phys], .agg #[.slice A q.ticks.length cap, .int .i64 q.from_, .int .i64 q.to_, .int .i64 q.least, .int .i64 q.bid, .int .i64 q.ask, .int .i64 q.before, .int .i64 q.move]] w fun e w' => e = .returned (.bool true) ∧ Below w.heap.size w w' := by
  obtain ⟨hI, hQ⟩ := hq
  have C1 := Lib.hid (fun ww h => price18_any p hp A cap q hQ ww h)
  have C2 := Lib.hid (fun ww h => rprice18_any p hp A cap q hQ ww h)
  have C3 := Lib.hid (fun ww h => mcheck18_any p hp A cap q hQ ww h)
  have C4 := Lib.hid (fun ww h => rmcheck18_any p hp A cap q hQ ww h)
  have CG := Lib.hid (fun ww => goes18_any ww)
  have HB0 := Lib.hid (below_al (below_al (Below.refl w.heap.size w) (.cells #[.string p.name, .int .i64 p.cur, .int .i64 p.mult, .int .i64 p.tick, .int .i64 p.low, .int .i64 p.high, .bool p.phys] 42)) (.cells (qC A cap q) 44))
  have HP0 : Hid (PBox ((w.alloc (.cells #[.string p.name, .int .i64 p.cur, .int .i64 p.mult, .int .i64 p.tick, .int .i64 p.low, .int .i64 p.high, .bool p.phys] 42)).alloc (.cells (qC A cap q) 44)) w.heap.size p) := Lib.hid ((PBox.new w p).alloc _)
  have HQ0 := Lib.hid (CB.new1 w (.cells #[.string p.name, .int .i64 p.cur, .int .i64 p.mult, .int .i64 p.tick, .int .i64 p.low, .int .i64 p.high, .bool p.phys] 42) 44 (qC A cap q))
  have HI := Lib.hid (hI.below HB0.out)
  obtain ⟨c0, c1, c2, c3, c4, c5, c6, c7⟩ := quote_cells HQ0.out
  obtain ⟨d0, d1, d2, d3, d4, d5, d6⟩ := HP0.out.cells
  clear hI hQ hp
  generalize MK.qE p q = y at *
  generalize MK.ruleR p q = rn at *
  generalize MK.priceN p q = x at *
  go_enter Try.func7, Try.ntmps7
  go_wp2_with fail
  generalize (w.alloc (.cells #[.string p.name, .int .i64 p.cur, .int .i64 p.mult, .int .i64 p.tick, .int .i64 p.low, .int .i64 p.high, .bool p.phys] 42)).alloc (.cells #[.slice A q.ticks.length cap, .int .i64 q.from_, .int .i64 q.to_, .int .i64 q.least, .int .i64 q.bid, .int .i64 q.ask, .int .i64 q.before, .int .i64 q.move] 44) = w0 at *
  refine (C1.out _ HI.out).mono ?_
  rintro e w1 ⟨rfl, b1⟩
  have HB1 := Lib.hid (HB0.out.trans (b1.mono HB0.out.size))
  have HP1 := Lib.hid (HP0.out.below b1 HP0.out.lt)
  have HQ1 := Lib.hid (HQ0.out.below b1 HQ0.out.lt)
  have HI1 := Lib.hid (HI.out.below b1)
  clear b1 c0 c1 c2 c3 c4 c5 c6 c7 d0 d1 d2 d3 d4 d5 d6 HP0 HQ0 HI HB0
  obtain ⟨c0, c1, c2, c3, c4, c5, c6, c7⟩ := quote_cells HQ1.out
  obtain ⟨d0, d1, d2, d3, d4, d5, d6⟩ := HP1.out.cells
  go_wp2_with fail
  refine (C2.out _ HI1.out).mono ?_
  rintro e w2 ⟨rfl, b2⟩
  have HB2 := Lib.hid (HB1.out.trans (b2.mono HB1.out.size))
  have HP2 := Lib.hid (HP1.out.below b2 HP1.out.lt)
  have HQ2 := Lib.hid (HQ1.out.below b2 HQ1.out.lt)
  have HI2 := Lib.hid (HI1.out.below b2)
  clear b2 c0 c1 c2 c3 c4 c5 c6 c7 d0 d1 d2 d3 d4 d5 d6 HP1 HQ1 HI1 HB1
  have HSX : Hid (∀ ww, Below w2.heap.size w2 ww → (ww.cell? ⟨w.heap.size, 0, none⟩ = some (.string p.name) ∧ ww.cell? ⟨w.heap.size, 1, none⟩ = some (.int .i64 p.cur) ∧ ww.cell? ⟨w.heap.size, 2, none⟩ = some (.int .i64 p.mult) ∧ ww.cell? ⟨w.heap.size, 3, none⟩ = some (.int .i64 p.tick) ∧ ww.cell? ⟨w.heap.size, 4, none⟩ = some (.int .i64 p.low) ∧ ww.cell? ⟨w.heap.size, 5, none⟩ = some (.int .i64 p.high) ∧ ww.cell? ⟨w.heap.size, 6, none⟩ = some (.bool p.phys)) ∧ (ww.cell? ⟨w.heap.size + 1, 0, none⟩ = some (.slice A q.ticks.length cap) ∧ ww.cell? ⟨w.heap.size + 1, 1, none⟩ = some (.int .i64 q.from_) ∧ ww.cell? ⟨w.heap.size + 1, 2, none⟩ = some (.int .i64 q.to_) ∧ ww.cell? ⟨w.heap.size + 1, 3, none⟩ = some (.int .i64 q.least) ∧ ww.cell? ⟨w.heap.size + 1, 4, none⟩ = some (.int .i64 q.bid) ∧ ww.cell? ⟨w.heap.size + 1, 5, none⟩ = some (.int .i64 q.ask) ∧ ww.cell? ⟨w.heap.size + 1, 6, none⟩ = some (.int .i64 q.before) ∧ ww.cell? ⟨w.heap.size + 1, 7, none⟩ = some (.int .i64 q.move))) := Lib.hid (fun ww h => ⟨(HP2.out.below h HP2.out.lt).cells, quote_cells (HQ2.out.below h HQ2.out.lt)⟩)
  have HBw : Hid (Below w2.heap.size w2 w2.drew) := Lib.hid (Below.refl _ _).drew
  go_wp2_with fail
  go_region_held3 (fun ww => (ww.cell? ⟨w.heap.size, 0, none⟩ = some (.string p.name) ∧ ww.cell? ⟨w.heap.size, 1, none⟩ = some (.int .i64 p.cur) ∧ ww.cell? ⟨w.heap.size, 2, none⟩ = some (.int .i64 p.mult) ∧ ww.cell? ⟨w.heap.size, 3, none⟩ = some (.int .i64 p.tick) ∧ ww.cell? ⟨w.heap.size, 4, none⟩ = some (.int .i64 p.low) ∧ ww.cell? ⟨w.heap.size, 5, none⟩ = some (.int .i64 p.high) ∧ ww.cell? ⟨w.heap.size, 6, none⟩ = some (.bool p.phys)) ∧ (ww.cell? ⟨w.heap.size + 1, 0, none⟩ = some (.slice A q.ticks.length cap) ∧ ww.cell? ⟨w.heap.size + 1, 1, none⟩ = some (.int .i64 q.from_) ∧ ww.cell? ⟨w.heap.size + 1, 2, none⟩ = some (.int .i64 q.to_) ∧ ww.cell? ⟨w.heap.size + 1, 3, none⟩ = some (.int .i64 q.least) ∧ ww.cell? ⟨w.heap.size + 1, 4, none⟩ = some (.int .i64 q.bid) ∧ ww.cell? ⟨w.heap.size + 1, 5, none⟩ = some (.int .i64 q.ask) ∧ ww.cell? ⟨w.heap.size + 1, 6, none⟩ = some (.int .i64 q.before) ∧ ww.cell? ⟨w.heap.size + 1, 7, none⟩ = some (.int .i64 q.move)))
    (exact HSX.out _ HBw.out)
    (first
      | (go_at_call 23; refine (C3.out _ (HI2.out.below HBw.out)).mono ?_; rintro e w6 ⟨rfl, b6⟩; replace HBw := Lib.hid (HBw.out.trans (b6.mono HBw.out.size)); clear b6)
      | (go_at_call 24; refine (C4.out _ (HI2.out.below HBw.out)).mono ?_; rintro e w6 ⟨rfl, b6⟩; replace HBw := Lib.hid (HBw.out.trans (b6.mono HBw.out.size)); clear b6)
      | (go_at_call 25; refine (CG.out _).mono ?_; rintro e w6 ⟨rfl, b6⟩; replace HBw := Lib.hid (HBw.out.trans (b6.mono HBw.out.size)); clear b6))
  all_goals (
    have HBF := Lib.hid (HB2.out.trans (HBw.out.mono HB2.out.size))
    clear HSX HBw
    go_wp2_with fail
    go_ret
    exact ⟨rfl, HBF.out⟩)
end Go.Proofs.Ytaegapcccboinaa.markPrices

/- What the reach says of a text that opens a record, over any program. -/
namespace Go.Recs
open Go.ChangeShapes Go.WideShapes Go.RowKit Go.Deep
set_option linter.unusedVariables false
theorem first_sized {H : Type} {enc : TypeId × Value → H} {P : Program} {W : World} {base : Nat} {spare : Nat → Bool} {held : Bool} {T : TypeId} {cs : Array Value} {d : DataW H} {p : List MemPlace} {fs : Array Field} {f : Field} {s : ByteArray}
    {ts : List TypeId} {ds : List (DataW H)} {j : Nat}
    (h : (DataW.weightsEach P ts ds).all (· ≤ reachBytes) = true) (ht : ts[j]? = some T) (hd : ds[j]? = some d)
    (hT : DataW.Trod enc P W base spare held T (.agg cs) d p) (hu : P.underlying T = some (.struct fs)) (hf : fs[0]? = some f) (ho : f.offset = 0) (hs : P.underlying f.type = some .string) (hc : P.cellsOf f.type = 1) (hcs : cs[0]? = some (.string s)) :
    s.size ≤ 140737488351232 := by
  obtain ⟨fuel, hx⟩ := hT
  obtain ⟨xs, n, _, hxd, _, hxl, hfl⟩ := DataW.trod_struct hu hx
  have h0 := hfl 0 f hf
  have hpos : 0 < xs.length := by
    rw [hxl]
    rcases Nat.eq_zero_or_pos fs.size with e | e
    · rw [Array.getElem?_eq_none (by omega)] at hf; cases hf
    · exact e
  rw [List.getElem?_eq_getElem hpos] at h0
  obtain ⟨t, ht0, hx0, _⟩ := DataW.trod_string hs h0
  rw [ho, hc, List.drop_zero] at ht0
  have ets : t = s := by
    have e1 : (Value.agg cs).cells.toList.take 1 = [Value.string t] := ht0
    have e2 : (Value.agg cs).cells.toList[0]? = some (Value.string s) := by simpa [Value.cells] using hcs
    cases hl : (Value.agg cs).cells.toList with
    | nil => rw [hl] at e2; cases e2
    | cons a r => rw [hl] at e1 e2; simp at e1 e2; rw [e1] at e2; injection e2
  subst ets
  injection hxd with hd1 _
  have hw : t.data.toList.length ∈ d.weights P T := by
    rw [hd1]
    simp only [DataW.weights, hu]
    have hm := DataW.weights_mem_each (P := P) (ts := fs.toList.map (·.type)) (ds := xs.map (·.1)) (j := 0) (t := f.type) (d := xs[0].1) (by rw [List.getElem?_map, Array.getElem?_toList, hf]; rfl) (by rw [List.getElem?_map, List.getElem?_eq_getElem hpos]; rfl) t.data.toList.length
    apply hm
    rw [hx0]
    simp [DataW.weights]
  have := List.all_eq_true.1 h _ (DataW.weights_mem_each ht hd _ hw)
  have e : t.data.toList.length = t.size := Array.length_toList
  rw [e] at this
  have hr : reachBytes = 140737488351232 := by decide
  rw [← hr]
  simpa using this
end Go.Recs

/- A law's arguments: arrays of two and of three ints. -/
namespace Go.Proofs.Ytaegapcccboinaa
open Go.ChangeShapes Go.WideShapes Go.ChangeAt Go.RowKit
set_option linter.unusedVariables false
set_option maxRecDepth 100000

theorem array_two {T : Array Value} (h : T.size = 2) : ∃ a b, T = #[a, b] := by
  obtain ⟨l⟩ := T
  match l, h with
  | [a, b], _ => exact ⟨a, b, rfl⟩
theorem trod_two {H : Type} {enc : TypeId × Value → H} {P : Program} {w : World} {base : Nat} {spare : Nat → Bool} {held : Bool} {t e : TypeId} {fuel : Nat} {c0 c1 : Value} {x : DataW H × List MemPlace}
    (ht : P.underlying t = some (.array 2 e)) (hce : P.cellsOf e = 1) (h : DataW.trod enc P w base spare held fuel t [c0, c1] = some x) :
    ∃ y0 y1 n, DataW.trod enc P w base spare held n e [c0] = some y0 ∧ DataW.trod enc P w base spare held n e [c1] = some y1 := by
  cases fuel with
  | zero => simp [DataW.trod] at h
  | succ n =>
    unfold DataW.trod at h
    rw [ht] at h
    have r2 : List.range 2 = [0, 1] := rfl
    simp [r2, hce] at h
    obtain ⟨_, h⟩ := h
    cases h0 : DataW.trod enc P w base spare held n e [c0] with
    | none => simp [h0] at h
    | some y0 =>
      cases h1 : DataW.trod enc P w base spare held n e [c1] with
      | none => simp [h0, h1] at h
      | some y1 => exact ⟨y0, y1, n, h0, h1⟩
end Go.Proofs.Ytaegapcccboinaa

/- A law's arguments: ticks. -/
namespace Go.Proofs.Ytaegapcccboinaa
open Go.ChangeShapes Go.WideShapes Go.ChangeAt Go.RowKit Go.Recs
set_option linter.unusedVariables false
set_option maxRecDepth 100000
theorem tick_leafs : leafs Try.prog 2 72 = some tickL := by kernel_rfl
theorem open_tickT {H : Type} {enc : TypeId × Value → H} {W : World} {base b0 : Nat} {spare : Nat → Bool} {held : Bool} {r : Reach} {v : Value} {d : DataW H} {p : List MemPlace}
    (hv : Value.okWide Try.prog W r b0 22 v) (h : DataW.Trod enc Try.prog W base spare held 22 v d p) :
    ∃ A cap, ∃ l : List TP.Tick, v = .slice A l.length cap ∧ (Ticks W A l ∧ l.length ≤ cap) ∧ True := by
  obtain ⟨A, cap, rows, rfl, hR, hk, hc⟩ := open_recs (n := 2) (sz := 3) Try.underlying22 tick_leafs (by kernel_rfl) rfl (by omega) hv h
  obtain ⟨l, rfl, hq⟩ := typed (ls := tickL) tickV _ tick_row rows hk
  rw [List.length_map] at hc ⊢
  exact ⟨A, cap, l, rfl, ⟨⟨hR, hq⟩, hc⟩, trivial⟩
end Go.Proofs.Ytaegapcccboinaa

/- A law's arguments: products and series, by value and in slices. -/
namespace Go.Proofs.Ytaegapcccboinaa
open Go.ChangeShapes Go.WideShapes Go.ChangeAt Go.RowKit Go.Recs
set_option linter.unusedVariables false
set_option maxRecDepth 100000

theorem prod_leafs : leafs Try.prog 2 42 = some prodL := by kernel_rfl
theorem ser_leafs : leafs Try.prog 2 57 = some serL := by kernel_rfl
theorem open_prodV {H : Type} {enc : TypeId × Value → H} {W : World} {base b0 : Nat} {spare : Nat → Bool} {held : Bool} {r : Reach} {v : Value} {d : DataW H} {p : List MemPlace}
    (hv : Value.okWide Try.prog W r b0 42 v) (h : DataW.Trod enc Try.prog W base spare held 42 v d p) :
    ∃ x : QM.Prod, v = .agg #[.string x.name, .int .i64 x.cur, .int .i64 x.mult, .int .i64 x.tick, .int .i64 x.low, .int .i64 x.high, .bool x.phys] ∧ prodQ x := by
  obtain ⟨cs, rfl, hk⟩ := open_rec (n := 2) Try.underlying42 prod_leafs (by kernel_rfl) hv h
  obtain ⟨x, rfl, hq⟩ := prod_row cs hk
  exact ⟨x, rfl, hq⟩
theorem open_serV {H : Type} {enc : TypeId × Value → H} {W : World} {base b0 : Nat} {spare : Nat → Bool} {held : Bool} {r : Reach} {v : Value} {d : DataW H} {p : List MemPlace}
    (hv : Value.okWide Try.prog W r b0 57 v) (h : DataW.Trod enc Try.prog W base spare held 57 v d p) :
    ∃ x : EM.Ser, v = .agg #[.string x.prod, .int .i64 x.kind, .int .i64 x.expiry, .int .i64 x.strike] ∧ serQ x := by
  obtain ⟨cs, rfl, hk⟩ := open_rec (n := 2) Try.underlying57 ser_leafs (by kernel_rfl) hv h
  obtain ⟨x, rfl, hq⟩ := ser_row cs hk
  exact ⟨x, rfl, hq⟩
theorem prod_sized {H : Type} {enc : TypeId × Value → H} {W : World} {base : Nat} {spare : Nat → Bool} {held : Bool} {x : QM.Prod} {d : DataW H} {p : List MemPlace} {ts : List TypeId} {ds : List (DataW H)} {j : Nat}
    (h : (DataW.weightsEach Try.prog ts ds).all (· ≤ reachBytes) = true) (ht : ts[j]? = some 42) (hd : ds[j]? = some d)
    (hT : DataW.Trod enc Try.prog W base spare held 42 (.agg #[.string x.name, .int .i64 x.cur, .int .i64 x.mult, .int .i64 x.tick, .int .i64 x.low, .int .i64 x.high, .bool x.phys]) d p) : x.name.size ≤ 140737488351232 :=
  first_sized (cs := #[.string x.name, .int .i64 x.cur, .int .i64 x.mult, .int .i64 x.tick, .int .i64 x.low, .int .i64 x.high, .bool x.phys]) h ht hd hT Try.underlying42 rfl rfl Try.underlying9 (by kernel_rfl) rfl
theorem ser_sized {H : Type} {enc : TypeId × Value → H} {W : World} {base : Nat} {spare : Nat → Bool} {held : Bool} {x : EM.Ser} {d : DataW H} {p : List MemPlace} {ts : List TypeId} {ds : List (DataW H)} {j : Nat}
    (h : (DataW.weightsEach Try.prog ts ds).all (· ≤ reachBytes) = true) (ht : ts[j]? = some 57) (hd : ds[j]? = some d)
    (hT : DataW.Trod enc Try.prog W base spare held 57 (.agg #[.string x.prod, .int .i64 x.kind, .int .i64 x.expiry, .int .i64 x.strike]) d p) : x.prod.size ≤ 140737488351232 :=
  first_sized (cs := #[.string x.prod, .int .i64 x.kind, .int .i64 x.expiry, .int .i64 x.strike]) h ht hd hT Try.underlying57 rfl rfl Try.underlying9 (by kernel_rfl) rfl
end Go.Proofs.Ytaegapcccboinaa
