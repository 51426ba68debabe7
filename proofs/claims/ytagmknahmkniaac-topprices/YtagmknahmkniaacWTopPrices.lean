import Derived.Test.YtagmknahmkniaacBun10
import Derived.Test.YtagmknahmkniaacBun11
import Derived.Test.YtagmknahmkniaacBun12
import Derived.Test.YtagmknahmkniaacBun9
import Derived.Deep.RegionHeld3
namespace Go.Proofs.Ytagmknahmkniaac.topPrices
open Go.RowKit Go.Recs
set_option linter.unusedVariables false
set_option linter.unusedSimpArgs false
set_option maxHeartbeats 16000000 in
set_option maxRecDepth 100000 in
theorem walk (p : QM.Prod) (A : Option Addr) (cap : Nat) (q : MK.Quote) (A2 : Option Addr) (cap2 : Nat) (x : UM.Crv) (w : World) (hp : prodQ p) (hq : Ticks w A q.ticks ∧ quoteQ q) (hx : Pts w A2 x.pts ∧ i64 x.day ∧ i64 x.net) :
    Calls Try.prog 3 #[.agg #[.string p.name, .int .i64 p.cur, .int .i64 p.mult, .int .i64 p.tick, .int .i64 p.low, .int .i64 p.high, .bool p.phys], .agg #[.slice A q.ticks.length cap, .int .i64 q.from_, .int .i64 q.to_, .int .i64 q.least, .int .i64 q.bid, .int .i64 q.ask, .int .i64 q.before, .int .i64 q.move], .agg #[.slice A2 x.pts.length cap2, .int .i64 x.day, .int .i64 x.net]] w fun e w' => e = .returned (.bool true) ∧ Below w.heap.size w w' := by
  have hlen := hx.1.len
  have CG := Lib.hid (fun ww => goes10_any ww)
  have CM' := Lib.hid (fun ww h => price18_any p hp A cap q hq.2 ww h)
  have CP := Lib.hid (fun z ww => qprice_any p z hp ww)
  have CA := Lib.hid (fun A c ww h => uat_any A x.pts x.pts.length c rfl x.day p.tick ww h)
  have CC := Lib.hid (fun net a b ww => vcarried_any p net a b hp ww)
  have CV := Lib.hid (fun z net ww => qvalue_any p z net hp ww)
  have CF := Lib.hid (fun z ww => fits_any z ww)
  have HB0 := Lib.hid (below_al (below_al (below_al (Below.refl w.heap.size w) (.cells #[.string p.name, .int .i64 p.cur, .int .i64 p.mult, .int .i64 p.tick, .int .i64 p.low, .int .i64 p.high, .bool p.phys] 23)) (.cells #[.slice A q.ticks.length cap, .int .i64 q.from_, .int .i64 q.to_, .int .i64 q.least, .int .i64 q.bid, .int .i64 q.ask, .int .i64 q.before, .int .i64 q.move] 26)) (.cells #[.slice A2 x.pts.length cap2, .int .i64 x.day, .int .i64 x.net] 29))
  have HP0 : Hid (PBox (((w.alloc (.cells #[.string p.name, .int .i64 p.cur, .int .i64 p.mult, .int .i64 p.tick, .int .i64 p.low, .int .i64 p.high, .bool p.phys] 23)).alloc (.cells #[.slice A q.ticks.length cap, .int .i64 q.from_, .int .i64 q.to_, .int .i64 q.least, .int .i64 q.bid, .int .i64 q.ask, .int .i64 q.before, .int .i64 q.move] 26)).alloc (.cells #[.slice A2 x.pts.length cap2, .int .i64 x.day, .int .i64 x.net] 29)) w.heap.size p) := Lib.hid (((PBox.new w p).alloc _).alloc _)
  have HQ0 : Hid (CB (((w.alloc (.cells #[.string p.name, .int .i64 p.cur, .int .i64 p.mult, .int .i64 p.tick, .int .i64 p.low, .int .i64 p.high, .bool p.phys] 23)).alloc (.cells #[.slice A q.ticks.length cap, .int .i64 q.from_, .int .i64 q.to_, .int .i64 q.least, .int .i64 q.bid, .int .i64 q.ask, .int .i64 q.before, .int .i64 q.move] 26)).alloc (.cells #[.slice A2 x.pts.length cap2, .int .i64 x.day, .int .i64 x.net] 29)) (w.heap.size + 1) 26 (qC A cap q)) := Lib.hid ((CB.new1 w (.cells #[.string p.name, .int .i64 p.cur, .int .i64 p.mult, .int .i64 p.tick, .int .i64 p.low, .int .i64 p.high, .bool p.phys] 23) 26 (qC A cap q)).alloc _)
  have HX0 := Lib.hid (CB.new2 w (.cells #[.string p.name, .int .i64 p.cur, .int .i64 p.mult, .int .i64 p.tick, .int .i64 p.low, .int .i64 p.high, .bool p.phys] 23) (.cells #[.slice A q.ticks.length cap, .int .i64 q.from_, .int .i64 q.to_, .int .i64 q.least, .int .i64 q.bid, .int .i64 q.ask, .int .i64 q.before, .int .i64 q.move] 26) 29 #[.slice A2 x.pts.length cap2, .int .i64 x.day, .int .i64 x.net])
  have HI0 := Lib.hid (hq.1.below ((((Below.refl _ w).alloc (Nat.le_refl _) (.cells #[.string p.name, .int .i64 p.cur, .int .i64 p.mult, .int .i64 p.tick, .int .i64 p.low, .int .i64 p.high, .bool p.phys] 23)).alloc (by simp) (.cells #[.slice A q.ticks.length cap, .int .i64 q.from_, .int .i64 q.to_, .int .i64 q.least, .int .i64 q.bid, .int .i64 q.ask, .int .i64 q.before, .int .i64 q.move] 26)).alloc (by simp <;> omega) (.cells #[.slice A2 x.pts.length cap2, .int .i64 x.day, .int .i64 x.net] 29)))
  have HT0 := Lib.hid (hx.1.below ((((Below.refl _ w).alloc (Nat.le_refl _) (.cells #[.string p.name, .int .i64 p.cur, .int .i64 p.mult, .int .i64 p.tick, .int .i64 p.low, .int .i64 p.high, .bool p.phys] 23)).alloc (by simp) (.cells #[.slice A q.ticks.length cap, .int .i64 q.from_, .int .i64 q.to_, .int .i64 q.least, .int .i64 q.bid, .int .i64 q.ask, .int .i64 q.before, .int .i64 q.move] 26)).alloc (by simp <;> omega) (.cells #[.slice A2 x.pts.length cap2, .int .i64 x.day, .int .i64 x.net] 29)))
  obtain ⟨c0, c1, c2, c3, c4, c5, c6, c7⟩ := quote_cells HQ0.out
  obtain ⟨d0, d1, d2, d3, d4, d5, d6⟩ := HP0.out.cells
  clear hq hx
  by_cases hy : MK.qE p q = 0
  · have hh := (MK.holds hy).1
    have HCP := Lib.hid (fun (h : ∀ y ∈ x.pts, y.known = true → QM.priceE p y.price = 0) (he : UM.atE x.pts x.day p.tick = 0) => UM.curve_price (QM.price_zero.1 hh).1 h he)
    have HCH := Lib.hid (fun b (hb : QM.priceE p b = 0) => UM.change (net := x.net) hh hb)
    have HPA := CP.out (MK.priceN p q)
    rw [hh] at HPA
    have HPA := Lib.hid HPA
    rw [hy] at CM'
    generalize MK.priceN p q = a at *
    generalize MK.ruleR p q = rn at *
    clear hy hh
    go_enter Try.func3, Try.ntmps3
    go_wp2_with fail
    generalize ((w.alloc (.cells #[.string p.name, .int .i64 p.cur, .int .i64 p.mult, .int .i64 p.tick, .int .i64 p.low, .int .i64 p.high, .bool p.phys] 23)).alloc (.cells #[.slice A q.ticks.length cap, .int .i64 q.from_, .int .i64 q.to_, .int .i64 q.least, .int .i64 q.bid, .int .i64 q.ask, .int .i64 q.before, .int .i64 q.move] 26)).alloc (.cells #[.slice A2 x.pts.length cap2, .int .i64 x.day, .int .i64 x.net] 29) = w0 at *
    refine (CM'.out _ HI0.out).mono ?_
    rintro e w1 ⟨rfl, b1⟩
    have HB1 := Lib.hid (HB0.out.trans (b1.mono HB0.out.size))
    have HP1 := Lib.hid (HP0.out.below b1 HP0.out.lt)
    have HX1 := Lib.hid (HX0.out.below b1 HX0.out.lt)
    have HT1 := Lib.hid (HT0.out.below b1)
    clear b1 c0 c1 c2 c3 c4 c5 c6 c7 d0 d1 d2 d3 d4 d5 d6 HP0 HQ0 HX0 HI0 HT0 HB0 CM'
    obtain ⟨d0, d1, d2, d3, d4, d5, d6⟩ := HP1.out.cells
    go_wp2_with fail
    refine (HPA.out _).mono ?_
    rintro e w2 ⟨rfl, b2⟩
    have HB2 := Lib.hid (HB1.out.trans (b2.mono HB1.out.size))
    have HP2 := Lib.hid (HP1.out.below b2 HP1.out.lt)
    have HX2 := Lib.hid (HX1.out.below b2 HX1.out.lt)
    have HT2 := Lib.hid (HT1.out.below b2)
    clear b2 d0 d1 d2 d3 d4 d5 d6 HP1 HX1 HT1 HB1
    have x0 := HX2.out.cell 0
    have x1 := HX2.out.cell 1
    have x2 := HX2.out.cell 2
    simp only [List.getElem?_toArray, List.getElem?_cons_zero, List.getElem?_cons_succ] at x0 x1 x2
    go_wp2_with fail
    go_loopw [6, 10] (fun _ i wr => ∃ k : Nat, k ≤ x.pts.length ∧ i = .int .i64 (k : Int) ∧ Hid (∀ y ∈ x.pts.take k, y.known = true → QM.priceE p y.price = 0) ∧ Hid (Below w2.heap.size w2 wr)) (fun _ i _ => x.pts.length - (intOf i).toNat)
    case atStart => exact ⟨0, by omega, rfl, Lib.hid (by simp), Lib.hid (Below.refl _ _)⟩
    case round =>
      clear x0 x1 x2
      obtain ⟨k, hk, rfl, HE, HB⟩ := hrel
      have HZ := Lib.hid HB.out.size
      have HXr := Lib.hid (HX2.out.below HB.out HX2.out.lt)
      have HPr := Lib.hid (HP2.out.below HB.out HP2.out.lt)
      have x0 := HXr.out.cell 0
      have x1 := HXr.out.cell 1
      have x2 := HXr.out.cell 2
      simp only [List.getElem?_toArray, List.getElem?_cons_zero, List.getElem?_cons_succ] at x0 x1 x2
      by_cases hlt : k < x.pts.length
      · obtain ⟨b, off, t, rfl, hb, HV, qt, t0, t1, t2⟩ := pts_get (HT2.out.below HB.out) hlt
        have HTK : Hid (x.pts.take (k + 1) = x.pts.take k ++ [t]) := Lib.hid (by rw [List.take_succ_eq_append_getElem hlt, ← UM.pAt_get hlt, HV.out])
        obtain ⟨te, tp, tk⟩ := t
        simp only [] at t0 t1 t2
        clear qt HV
        cases tk
        · have HE2 : Hid (∀ y ∈ x.pts.take (k + 1), y.known = true → QM.priceE p y.price = 0) := Lib.hid (fun y hy hyk => by
            rw [HTK.out] at hy
            rcases List.mem_append.1 hy with hy | hy
            · exact HE.out y hy hyk
            · rw [List.mem_singleton] at hy; subst hy; cases hyk)
          go_wp2_with fail
          go_quiet (fail)
          go_wp2_with fail
          go_roundw
          case rel => exact ⟨k + 1, by omega, by go_num, HE2, Lib.hid (by first | exact below_drewN HB.out _ | exact HB.out)⟩
          case measure => simp [intOf]; omega
        · have HC1 := Lib.hid (CP.out tp)
          have HSX : Hid (∀ ww, Below wr.heap.size wr ww → (ww.cell? ⟨w.heap.size, 0, none⟩ = some (.string p.name) ∧ ww.cell? ⟨w.heap.size, 1, none⟩ = some (.int .i64 p.cur) ∧ ww.cell? ⟨w.heap.size, 2, none⟩ = some (.int .i64 p.mult) ∧ ww.cell? ⟨w.heap.size, 3, none⟩ = some (.int .i64 p.tick) ∧ ww.cell? ⟨w.heap.size, 4, none⟩ = some (.int .i64 p.low) ∧ ww.cell? ⟨w.heap.size, 5, none⟩ = some (.int .i64 p.high) ∧ ww.cell? ⟨w.heap.size, 6, none⟩ = some (.bool p.phys)) ∧ ww.cell? ⟨w.heap.size + 2, 0, none⟩ = some (.slice (some ⟨b, off, none⟩) x.pts.length cap2) ∧ (ww.cell? ⟨b, off + k * 3 + 1, none⟩ = some (.int .i64 tp) ∧ ww.cell? ⟨b, off + k * 3 + 2, none⟩ = some (.bool true))) := Lib.hid (fun ww h => ⟨(HPr.out.below h HPr.out.lt).cells, (HXr.out.below h HXr.out.lt).cell 0, (h.cell (p := ⟨b, off + k * 3 + 1, none⟩) hb).trans t1, (h.cell (p := ⟨b, off + k * 3 + 2, none⟩) hb).trans t2⟩)
          have HBw : Hid (Below wr.heap.size wr wr.drew) := Lib.hid (Below.refl _ _).drew
          by_cases hpr : QM.priceE p tp = 0
          · rw [hpr] at HC1
            have HE2 : Hid (∀ y ∈ x.pts.take (k + 1), y.known = true → QM.priceE p y.price = 0) := Lib.hid (fun y hy hyk => by
              rw [HTK.out] at hy
              rcases List.mem_append.1 hy with hy | hy
              · exact HE.out y hy hyk
              · rw [List.mem_singleton] at hy; subst hy; exact hpr)
            clear hpr
            go_wp2_with fail
            go_region_held3 (fun ww => (ww.cell? ⟨w.heap.size, 0, none⟩ = some (.string p.name) ∧ ww.cell? ⟨w.heap.size, 1, none⟩ = some (.int .i64 p.cur) ∧ ww.cell? ⟨w.heap.size, 2, none⟩ = some (.int .i64 p.mult) ∧ ww.cell? ⟨w.heap.size, 3, none⟩ = some (.int .i64 p.tick) ∧ ww.cell? ⟨w.heap.size, 4, none⟩ = some (.int .i64 p.low) ∧ ww.cell? ⟨w.heap.size, 5, none⟩ = some (.int .i64 p.high) ∧ ww.cell? ⟨w.heap.size, 6, none⟩ = some (.bool p.phys)) ∧ ww.cell? ⟨w.heap.size + 2, 0, none⟩ = some (.slice (some ⟨b, off, none⟩) x.pts.length cap2) ∧ (ww.cell? ⟨b, off + k * 3 + 1, none⟩ = some (.int .i64 tp) ∧ ww.cell? ⟨b, off + k * 3 + 2, none⟩ = some (.bool true)))
              (with_reducible exact HSX.out _ HBw.out)
              (first
                | (go_at_call 7; refine (HC1.out _).mono ?_; rintro e w6 ⟨rfl, b6⟩; replace HBw := Lib.hid (HBw.out.trans (b6.mono HBw.out.size)); clear b6))
            all_goals (
              have HB6 := Lib.hid (HB.out.trans (HBw.out.mono HZ.out))
              clear HSX HBw HB
              go_wp2_with fail
              go_roundw
              case rel => exact ⟨k + 1, by omega, by go_num, HE2, HB6⟩
              case measure => simp [intOf]; omega)
          · have hpd : (QM.priceE p tp != 0) = true := by simpa using hpr
            generalize QM.priceE p tp = pe at *
            clear hpr
            go_wp2_with fail
            go_region_held3 (fun ww => (ww.cell? ⟨w.heap.size, 0, none⟩ = some (.string p.name) ∧ ww.cell? ⟨w.heap.size, 1, none⟩ = some (.int .i64 p.cur) ∧ ww.cell? ⟨w.heap.size, 2, none⟩ = some (.int .i64 p.mult) ∧ ww.cell? ⟨w.heap.size, 3, none⟩ = some (.int .i64 p.tick) ∧ ww.cell? ⟨w.heap.size, 4, none⟩ = some (.int .i64 p.low) ∧ ww.cell? ⟨w.heap.size, 5, none⟩ = some (.int .i64 p.high) ∧ ww.cell? ⟨w.heap.size, 6, none⟩ = some (.bool p.phys)) ∧ ww.cell? ⟨w.heap.size + 2, 0, none⟩ = some (.slice (some ⟨b, off, none⟩) x.pts.length cap2) ∧ (ww.cell? ⟨b, off + k * 3 + 1, none⟩ = some (.int .i64 tp) ∧ ww.cell? ⟨b, off + k * 3 + 2, none⟩ = some (.bool true)))
              (with_reducible exact HSX.out _ HBw.out)
              (first
                | (go_at_call 7; refine (HC1.out _).mono ?_; rintro e w6 ⟨rfl, b6⟩; replace HBw := Lib.hid (HBw.out.trans (b6.mono HBw.out.size)); clear b6))
            all_goals (
              have HB6 := Lib.hid (HB2.out.trans ((HB.out.trans (HBw.out.mono HZ.out)).mono HB2.out.size))
              clear HSX HBw HB
              go_wp2_with fail
              refine (CG.out _).mono ?_
              rintro e w7 ⟨rfl, b7⟩
              have HB7 := Lib.hid (HB6.out.trans (b7.mono HB6.out.size))
              clear b7
              go_wp2_with fail
              go_ret
              exact ⟨rfl, HB7.out⟩)
      · obtain rfl : k = x.pts.length := by omega
        rw [List.take_length] at HE
        obtain ⟨d0, d1, d2, d3, d4, d5, d6⟩ := HPr.out.cells
        have HBF := Lib.hid (HB2.out.trans (HB.out.mono HB2.out.size))
        have HTr := Lib.hid (HT2.out.below HB.out)
        clear HB HB2 HP2 HX2 HT2
        by_cases hat : UM.atE x.pts x.day p.tick = 0
        · have hpb := HCP.out HE.out hat
          have C := HCH.out _ hpb
          have HPB := CP.out (UM.atN x.pts x.day p.tick)
          rw [hpb] at HPB
          have HPB := Lib.hid HPB
          rw [hat] at CA
          generalize UM.atN x.pts x.day p.tick = b at *
          obtain ⟨cn, ce, cr, cf, cs1, cs2⟩ := C
          have HCC := CC.out x.net a b
          rw [cn, ce] at HCC
          have HCC := Lib.hid HCC
          have HCV := Lib.hid (CV.out (b - a) x.net)
          have HCF := CF.out (QM.valueN p (b - a) x.net)
          rw [cf] at HCF
          have HCF := Lib.hid HCF
          generalize QM.valueN p (b - a) x.net = vn at *
          generalize QM.valueE p (b - a) x.net = ve at *
          clear hat hpb cn ce cf HCP HCH HE CC CV CP
          go_wp2_with fail
          refine (CA.out _ _ _ HTr.out).mono ?_
          rintro e w4 ⟨rfl, b4⟩
          have HB4 := Lib.hid (HBF.out.trans (b4.mono HBF.out.size))
          have HP4 := Lib.hid (HPr.out.below b4 HPr.out.lt)
          have HX4 := Lib.hid (HXr.out.below b4 HXr.out.lt)
          clear b4 d0 d1 d2 d3 d4 d5 d6 x0 x1 x2 HPr HXr HTr
          obtain ⟨d0, d1, d2, d3, d4, d5, d6⟩ := HP4.out.cells
          have x0 := HX4.out.cell 0
          have x1 := HX4.out.cell 1
          have x2 := HX4.out.cell 2
          simp only [List.getElem?_toArray, List.getElem?_cons_zero, List.getElem?_cons_succ] at x0 x1 x2
          go_wp2_with fail
          refine (HCC.out _).mono ?_
          rintro e w5 ⟨rfl, b5⟩
          have HB5 := Lib.hid (HB4.out.trans (b5.mono HB4.out.size))
          have HP5 := Lib.hid (HP4.out.below b5 HP4.out.lt)
          have HX5 := Lib.hid (HX4.out.below b5 HX4.out.lt)
          clear b5 d0 d1 d2 d3 d4 d5 d6 x0 x1 x2 HP4 HX4
          obtain ⟨d0, d1, d2, d3, d4, d5, d6⟩ := HP5.out.cells
          have x0 := HX5.out.cell 0
          have x1 := HX5.out.cell 1
          have x2 := HX5.out.cell 2
          simp only [List.getElem?_toArray, List.getElem?_cons_zero, List.getElem?_cons_succ] at x0 x1 x2
          go_wp2_with fail
          refine (HCV.out _).mono ?_
          rintro e w6 ⟨rfl, b6⟩
          have HB6 := Lib.hid (HB5.out.trans (b6.mono HB5.out.size))
          have HP6 := Lib.hid (HP5.out.below b6 HP5.out.lt)
          have HX6 := Lib.hid (HX5.out.below b6 HX5.out.lt)
          clear b6 d0 d1 d2 d3 d4 d5 d6 x0 x1 x2 HP5 HX5
          obtain ⟨d0, d1, d2, d3, d4, d5, d6⟩ := HP6.out.cells
          have x0 := HX6.out.cell 0
          have x1 := HX6.out.cell 1
          have x2 := HX6.out.cell 2
          simp only [List.getElem?_toArray, List.getElem?_cons_zero, List.getElem?_cons_succ] at x0 x1 x2
          go_wp2_with fail
          refine (HPB.out _).mono ?_
          rintro e w7 ⟨rfl, b7⟩
          have HB7 := Lib.hid (HB6.out.trans (b7.mono HB6.out.size))
          have HX7 := Lib.hid (HX6.out.below b7 HX6.out.lt)
          clear b7 d0 d1 d2 d3 d4 d5 d6 x0 x1 x2 HP6 HX6
          have x0 := HX7.out.cell 0
          have x1 := HX7.out.cell 1
          have x2 := HX7.out.cell 2
          simp only [List.getElem?_toArray, List.getElem?_cons_zero, List.getElem?_cons_succ] at x0 x1 x2
          rcases cr with ⟨rfl, r1, r2⟩ | ⟨r0, r1 | r1⟩
          · have f1 : decide (-1048576 ≤ x.net) = true := decide_eq_true r1
            have f2 : decide (x.net ≤ 1048576) = true := decide_eq_true r2
            go_wp2_with fail
            refine (HCF.out _).mono ?_
            rintro e w8 ⟨rfl, rfl⟩
            go_wp2_with fail
            refine (CG.out _).mono ?_
            rintro e w9 ⟨rfl, b9⟩
            have HB9 := Lib.hid (HB7.out.trans (b9.mono HB7.out.size))
            clear b9
            go_wp2_with fail
            go_ret
            exact ⟨rfl, HB9.out⟩
          · have f0 : (ve == 0) = false := by simpa using r0
            have f1 : decide (-1048576 ≤ x.net) = false := decide_eq_false (by omega)
            go_wp2_with fail
            refine (HCF.out _).mono ?_
            rintro e w8 ⟨rfl, rfl⟩
            go_wp2_with fail
            refine (CG.out _).mono ?_
            rintro e w9 ⟨rfl, b9⟩
            have HB9 := Lib.hid (HB7.out.trans (b9.mono HB7.out.size))
            clear b9
            go_wp2_with fail
            go_ret
            exact ⟨rfl, HB9.out⟩
          · have f0 : (ve == 0) = false := by simpa using r0
            have f1 : decide (-1048576 ≤ x.net) = true := decide_eq_true (by omega)
            have f2 : decide (x.net ≤ 1048576) = false := decide_eq_false (by omega)
            go_wp2_with fail
            refine (HCF.out _).mono ?_
            rintro e w8 ⟨rfl, rfl⟩
            go_wp2_with fail
            refine (CG.out _).mono ?_
            rintro e w9 ⟨rfl, b9⟩
            have HB9 := Lib.hid (HB7.out.trans (b9.mono HB7.out.size))
            clear b9
            go_wp2_with fail
            go_ret
            exact ⟨rfl, HB9.out⟩
        · have hd : (UM.atE x.pts x.day p.tick != 0) = true := by simpa using hat
          generalize UM.atE x.pts x.day p.tick = ae at *
          generalize UM.atN x.pts x.day p.tick = an at *
          clear hat HCP HCH HE
          go_wp2_with fail
          refine (CA.out _ _ _ HTr.out).mono ?_
          rintro e w4 ⟨rfl, b4⟩
          have HB4 := Lib.hid (HBF.out.trans (b4.mono HBF.out.size))
          clear b4
          go_wp2_with fail
          refine (CG.out _).mono ?_
          rintro e w7 ⟨rfl, b7⟩
          have HB7 := Lib.hid (HB4.out.trans (b7.mono HB4.out.size))
          clear b7
          go_wp2_with fail
          go_ret
          exact ⟨rfl, HB7.out⟩
  · have hd : (MK.qE p q != 0) = true := by simpa using hy
    have e1 : MK.priceN p q = 0 := by unfold MK.priceN; rw [if_neg hy]
    have e2 : MK.ruleR p q = 0 := by unfold MK.ruleR; rw [if_neg hy]
    rw [e1, e2] at CM'
    generalize MK.qE p q = y at *
    clear hy e1 e2
    go_enter Try.func3, Try.ntmps3
    go_wp2_with fail
    generalize ((w.alloc (.cells #[.string p.name, .int .i64 p.cur, .int .i64 p.mult, .int .i64 p.tick, .int .i64 p.low, .int .i64 p.high, .bool p.phys] 23)).alloc (.cells #[.slice A q.ticks.length cap, .int .i64 q.from_, .int .i64 q.to_, .int .i64 q.least, .int .i64 q.bid, .int .i64 q.ask, .int .i64 q.before, .int .i64 q.move] 26)).alloc (.cells #[.slice A2 x.pts.length cap2, .int .i64 x.day, .int .i64 x.net] 29) = w0 at *
    refine (CM'.out _ HI0.out).mono ?_
    rintro e w1 ⟨rfl, b1⟩
    have HB1 := Lib.hid (HB0.out.trans (b1.mono HB0.out.size))
    clear b1
    go_wp2_with fail
    refine (CG.out _).mono ?_
    rintro e w7 ⟨rfl, b7⟩
    have HB7 := Lib.hid (HB1.out.trans (b7.mono HB1.out.size))
    clear b7
    go_wp2_with fail
    go_ret
    exact ⟨rfl, HB7.out⟩
end Go.Proofs.Ytagmknahmkniaac.topPrices
