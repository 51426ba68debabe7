/- Put together: MrkC, MrkD, MrkE, MrkF. -/
import Derived.Test.YtaegapcccboinaaBun7
import Derived.Deep.RegionHeld3
/- Contracts of layer 18: Check. -/
namespace Go.Proofs.Ytaegapcccboinaa
open Go.RowKit Go.Recs
set_option linter.unusedVariables false
set_option linter.unusedSimpArgs false
def quoteQ (q : MK.Quote) : Prop := i64 q.from_ ∧ i64 q.to_ ∧ i64 q.least ∧ i64 q.bid ∧ i64 q.ask ∧ i64 q.before ∧ i64 q.move
set_option maxRecDepth 100000 in
set_option maxHeartbeats 8000000 in
theorem mcheck18_any (p : QM.Prod) (hp : prodQ p) (A : Option Addr) (cap : Nat) (q : MK.Quote) (hq : quoteQ q) (w : World) (hI : Ticks w A q.ticks) :
    Calls Try.prog 23 #[prodA p, qA A cap q] w fun e w' => e = .returned (.int .i64 (MK.qE p q)) ∧ Below w.heap.size w w' := by
  have CP := Lib.hid (fun ww => qcheck_any p hp ww)
  have CT := Lib.hid (fun ww h => tcheck_any A q.ticks q.ticks.length cap rfl ww h)
  have CW := Lib.hid (fun n a b ww => within18_any n a b ww)
  have CF := Lib.hid (fun (hl : q.ticks.length ≤ 1048576) ww h => checkprices_any p hp A cap q hl hq.2.2.2.1 hq.2.2.2.2.1 hq.2.2.2.2.2.1 ww h)
  have CB := Lib.hid (fun ww => hasboth_any A cap q ww)
  have CI := Lib.hid (fun ww => isprice18_any q.move ww)
  have KP := Lib.hid (@MK.q_prod p q); have KT := Lib.hid (@MK.q_tape p q); have KM := Lib.hid (@MK.q_time p q); have KL := Lib.hid (@MK.q_least p q); have KF := Lib.hid (@MK.q_first p q); have KC := Lib.hid (@MK.q_last p q); have KO := Lib.hid (@MK.q_ok p q)
  have KG : Hid (TP.allE q.ticks = 0 → q.ticks.length ≤ 1048576) := Lib.hid (fun h => by have := (TP.good h).len; omega)
  have HB0 := Lib.hid (below_al (below_al (Below.refl w.heap.size w) (.cells #[.string p.name, .int .i64 p.cur, .int .i64 p.mult, .int .i64 p.tick, .int .i64 p.low, .int .i64 p.high, .bool p.phys] 42)) (.cells (qC A cap q) 44))
  have HP0 : Hid (PBox ((w.alloc (.cells #[.string p.name, .int .i64 p.cur, .int .i64 p.mult, .int .i64 p.tick, .int .i64 p.low, .int .i64 p.high, .bool p.phys] 42)).alloc (.cells (qC A cap q) 44)) w.heap.size p) := Lib.hid ((PBox.new w p).alloc _)
  have HQ0 := Lib.hid (Proofs.Ytaegapcccboinaa.CB.new1 w (.cells #[.string p.name, .int .i64 p.cur, .int .i64 p.mult, .int .i64 p.tick, .int .i64 p.low, .int .i64 p.high, .bool p.phys] 42) 44 (qC A cap q))
  have HI := Lib.hid (hI.below HB0.out)
  obtain ⟨c0, c1, c2, c3, c4, c5, c6, c7⟩ := quote_cells HQ0.out
  obtain ⟨d0, d1, d2, d3, d4, d5, d6⟩ := HP0.out.cells
  have hm1 : MK.timeB q = (QM.within q.from_ 0 86399 && QM.within q.to_ q.from_ 86399) := rfl
  have hm2 : MK.lastB q = ((MK.both q && decide (q.ask < q.bid)) || !MK.isP q.move) := rfl
  have HM1 := Lib.hid hm1; have HM2 := Lib.hid hm2
  clear hI hp hq hm1 hm2
  generalize QM.checkE p = ep at *
  generalize TP.allE q.ticks = et at *
  generalize MK.timeB q = bt at *
  generalize MK.firstE p (MK.prices q) = ef at *
  generalize MK.lastB q = bl at *
  generalize MK.qE p q = x at *
  go_enter Try.func23, Try.ntmps23
  go_wp2_with fail
  generalize (w.alloc (.cells #[.string p.name, .int .i64 p.cur, .int .i64 p.mult, .int .i64 p.tick, .int .i64 p.low, .int .i64 p.high, .bool p.phys] 42)).alloc (.cells #[.slice A q.ticks.length cap, .int .i64 q.from_, .int .i64 q.to_, .int .i64 q.least, .int .i64 q.bid, .int .i64 q.ask, .int .i64 q.before, .int .i64 q.move] 44) = w0 at *
  refine (CP.out _).mono ?_
  rintro e w1 ⟨rfl, b1⟩
  have HB1 := Lib.hid (HB0.out.trans (b1.mono HB0.out.size))
  have HP1 := Lib.hid (HP0.out.below b1 HP0.out.lt)
  have HQ1 := Lib.hid (HQ0.out.below b1 HQ0.out.lt)
  have HI1 := Lib.hid (HI.out.below b1)
  clear b1 c0 c1 c2 c3 c4 c5 c6 c7 d0 d1 d2 d3 d4 d5 d6 HP0 HQ0 HI HB0
  by_cases hep : ep = 0
  · subst hep
    obtain ⟨c0, c1, c2, c3, c4, c5, c6, c7⟩ := quote_cells HQ1.out
    go_wp2_with fail
    refine (CT.out _ HI1.out).mono ?_
    rintro e w2 ⟨rfl, b2⟩
    have HB2 := Lib.hid (HB1.out.trans (b2.mono HB1.out.size))
    have HP2 := Lib.hid (HP1.out.below b2 HP1.out.lt)
    have HQ2 := Lib.hid (HQ1.out.below b2 HQ1.out.lt)
    have HI2 := Lib.hid (HI1.out.below b2)
    clear b2 c0 c1 c2 c3 c4 c5 c6 c7 HP1 HQ1 HI1 HB1
    by_cases het : et = 0
    · subst het
      have hln := KG.out rfl
      obtain ⟨c0, c1, c2, c3, c4, c5, c6, c7⟩ := quote_cells HQ2.out
      obtain ⟨d0, d1, d2, d3, d4, d5, d6⟩ := HP2.out.cells
      go_wp2_with fail
      refine (CW.out _ _ _ _).mono ?_
      rintro e w3 ⟨rfl, rfl⟩
      cases g1 : QM.within q.from_ 0 86399
      · have HX := Lib.hid (KM.out (by trivial) (by trivial) (by rw [HM1.out, g1]; rfl))
        clear g1
        go_wp2_with fail
        go_ret
        exact ⟨by rw [HX.out] <;> rfl, HB2.out⟩
      go_wp2_with fail
      refine (CW.out _ _ _ _).mono ?_
      rintro e w3 ⟨rfl, rfl⟩
      cases g2 : QM.within q.to_ q.from_ 86399
      · have HX := Lib.hid (KM.out (by trivial) (by trivial) (by rw [HM1.out, g1, g2]; rfl))
        clear g1 g2
        go_wp2_with fail
        go_ret
        exact ⟨by rw [HX.out] <;> rfl, HB2.out⟩
      have HT : Hid (bt = true) := Lib.hid (by rw [HM1.out, g1, g2]; rfl)
      clear g1 g2
      go_wp2_with fail
      refine (CW.out _ _ _ _).mono ?_
      rintro e w3 ⟨rfl, rfl⟩
      cases g3 : QM.within q.least 1 1048576
      · have HX := Lib.hid (KL.out (by trivial) (by trivial) HT.out g3)
        clear g3
        go_wp2_with fail
        go_ret
        exact ⟨by rw [HX.out] <;> rfl, HB2.out⟩
      have HL := Lib.hid g3
      clear g3
      go_wp2_with fail
      refine (CF.out hln _ HI2.out).mono ?_
      rintro e w4 ⟨rfl, b4⟩
      have HB4 := Lib.hid (HB2.out.trans (b4.mono HB2.out.size))
      have HQ4 := Lib.hid (HQ2.out.below b4 HQ2.out.lt)
      clear b4 c0 c1 c2 c3 c4 c5 c6 c7 d0 d1 d2 d3 d4 d5 d6 HP2 HQ2 HI2 HB2
      by_cases hef : ef = 0
      · subst hef
        obtain ⟨c0, c1, c2, c3, c4, c5, c6, c7⟩ := quote_cells HQ4.out
        have KC2 := Lib.hid (KC.out (by trivial) (by trivial) HT.out HL.out (by trivial))
        have KO2 := Lib.hid (KO.out (by trivial) (by trivial) HT.out HL.out (by trivial))
        go_wp2_with fail
        refine (CB.out _).mono ?_
        rintro e w5 ⟨rfl, b5⟩
        have HB5 := Lib.hid (HB4.out.trans (b5.mono HB4.out.size))
        have HQ5 := Lib.hid (HQ4.out.below b5 HQ4.out.lt)
        clear b5 c0 c1 c2 c3 c4 c5 c6 c7 HQ4 HB4
        obtain ⟨c0, c1, c2, c3, c4, c5, c6, c7⟩ := quote_cells HQ5.out
        cases hb : MK.both q
        · go_wp2_with fail
          refine (CI.out _).mono ?_
          rintro e w6 ⟨rfl, rfl⟩
          cases hi : MK.isP q.move
          · have HX := Lib.hid (KC2.out (by rw [HM2.out, hb, hi]; rfl))
            clear hb hi
            go_wp2_with fail
            go_ret
            exact ⟨by rw [HX.out] <;> rfl, HB5.out⟩
          · have HX := Lib.hid (KO2.out (by rw [HM2.out, hb, hi]; rfl))
            clear hb hi
            go_wp2_with fail
            go_ret
            exact ⟨by rw [HX.out] <;> rfl, HB5.out⟩
        · by_cases hlt : q.ask < q.bid
          · have HX := Lib.hid (KC2.out (by rw [HM2.out, hb, decide_eq_true hlt]; rfl))
            clear hb
            go_wp2_with fail
            go_ret
            exact ⟨by rw [HX.out] <;> rfl, HB5.out⟩
          · have hd : decide (q.ask < q.bid) = false := decide_eq_false hlt
            go_wp2_with fail
            refine (CI.out _).mono ?_
            rintro e w6 ⟨rfl, rfl⟩
            cases hi : MK.isP q.move
            · have HX := Lib.hid (KC2.out (by rw [HM2.out, hb, hi, hd]; rfl))
              clear hb hi
              go_wp2_with fail
              go_ret
              exact ⟨by rw [HX.out] <;> rfl, HB5.out⟩
            · have HX := Lib.hid (KO2.out (by rw [HM2.out, hb, hi, hd]; rfl))
              clear hb hi
              go_wp2_with fail
              go_ret
              exact ⟨by rw [HX.out] <;> rfl, HB5.out⟩
      · have HX := Lib.hid (KF.out (by trivial) (by trivial) HT.out HL.out hef)
        have hne : (ef != 0) = true := by simpa using hef
        clear hef
        go_wp2_with fail
        go_ret
        exact ⟨by rw [HX.out] <;> rfl, HB4.out⟩
    · have HX := Lib.hid (KT.out (by trivial) het)
      have hne : (et != 0) = true := by simpa using het
      clear het
      go_wp2_with fail
      go_ret
      exact ⟨by rw [HX.out] <;> rfl, HB2.out⟩
  · have HX := Lib.hid (KP.out hep)
    have hne : (ep != 0) = true := by simpa using hep
    clear hep
    go_wp2_with fail
    go_ret
    exact ⟨by rw [HX.out] <;> rfl, HB1.out⟩
end Go.Proofs.Ytaegapcccboinaa

/- Contracts of layer 18: the rules of a quote. -/
namespace Go.Proofs.Ytaegapcccboinaa
open Go.RowKit Go.Recs
set_option linter.unusedVariables false
set_option linter.unusedSimpArgs false
/-- what the rules captured: the product, the quote, the window, the last tick, whether there is one -/
structure RBox (w : World) (p : QM.Prod) (A : Option Addr) (cap : Nat) (q : MK.Quote) (gp gq gw gl gt : Nat) : Prop where
  hp : PBox w gp p
  hq : CB w gq 44 (qC A cap q)
  hw : ∃ B k, CB w gw 22 #[.slice B (MK.winQ q).length k] ∧ Ticks w B (MK.winQ q)
  hl : CB w gl 72 (tickC (TP.lastT q.ticks))
  ht : CB w gt 4 #[.bool (decide (0 < q.ticks.length))]
theorem RBox.below {w w' : World} {p : QM.Prod} {A : Option Addr} {cap : Nat} {q : MK.Quote} {gp gq gw gl gt : Nat} (h : RBox w p A cap q gp gq gw gl gt) (hb : Below w.heap.size w w') : RBox w' p A cap q gp gq gw gl gt := by
  obtain ⟨B, k, h1, h2⟩ := h.hw
  exact ⟨h.hp.below hb h.hp.lt, h.hq.below hb h.hq.lt, ⟨B, k, h1.below hb h1.lt, h2.below hb⟩, h.hl.below hb h.hl.lt, h.ht.below hb h.ht.lt⟩
section
variable {p : QM.Prod} {A : Option Addr} {cap : Nat} {q : MK.Quote} {gp gq gw gl gt : Nat} {w : World}
theorem rule1a_any (h : RBox w p A cap q gp gq gw gl gt) (hk : MK.Ok p q) :
    Calls Try.prog 84 #[.pointer (some ⟨gw, 0, none⟩), .pointer (some ⟨gq, 0, none⟩)] w fun e w' => e = .returned (.bool (decide (q.least ≤ TP.volN (MK.winQ q)))) ∧ Below w.heap.size w w' := by
  obtain ⟨B, k, h1, h2⟩ := h.hw
  have C := Lib.hid (haslots_any B (MK.winQ q) _ k q.least rfl w h2 (MK.win_ok hk))
  obtain ⟨c0, c1, c2, c3, c4, c5, c6, c7⟩ := quote_cells h.hq
  have k0 := h1.cell 0
  simp only [List.getElem?_toArray, List.getElem?_cons_zero] at k0
  generalize decide (q.least ≤ TP.volN (MK.winQ q)) = x at *
  generalize (MK.winQ q).length = n at *
  clear h h1 h2 hk
  go_enter Try.func84, Try.ntmps84
  go_wp2_with fail
  refine C.out.mono ?_
  rintro e w1 ⟨rfl, b1⟩
  have HB1 := Lib.hid b1
  clear b1
  go_wp2_with fail
  go_ret
  exact ⟨rfl, HB1.out⟩
theorem rule1b_any (h : RBox w p A cap q gp gq gw gl gt) (hk : MK.Ok p q) (hr : q.least ≤ TP.volN (MK.winQ q)) :
    Calls Try.prog 86 #[.pointer (some ⟨gw, 0, none⟩), .pointer (some ⟨gp, 0, none⟩)] w fun e w' => e = .returned (.tuple #[.int .i64 (MK.rawN p q), .int .i64 0]) ∧ Below w.heap.size w w' := by
  obtain ⟨B, k, h1, h2⟩ := h.hw
  have C := Lib.hid (vwap_any B (MK.winQ q) _ k p.tick 5 rfl w h2)
  rw [(MK.win_vw hk hr).1] at C
  have e : MK.rawN p q = TP.vwN (MK.winQ q) p.tick 5 := by unfold MK.rawN; rw [if_pos hr]
  rw [e]
  obtain ⟨c0, c1, c2, c3, c4, c5, c6⟩ := h.hp.cells
  have k0 := h1.cell 0
  simp only [List.getElem?_toArray, List.getElem?_cons_zero] at k0
  generalize TP.vwN (MK.winQ q) p.tick 5 = x at *
  generalize (MK.winQ q).length = n at *
  clear h h1 h2 hk hr e
  go_enter Try.func86, Try.ntmps86
  go_wp2_with fail
  refine C.out.mono ?_
  rintro e w1 ⟨rfl, b1⟩
  have HB1 := Lib.hid b1
  clear b1
  go_wp2_with fail
  go_ret2
  exact ⟨rfl, HB1.out⟩
theorem rule2a_any (h : RBox w p A cap q gp gq gw gl gt) :
    Calls Try.prog 87 #[.pointer (some ⟨gq, 0, none⟩)] w fun e w' => e = .returned (.bool (MK.both q)) ∧ Below w.heap.size w w' := by
  have C := Lib.hid (hasboth_any A cap q w)
  obtain ⟨c0, c1, c2, c3, c4, c5, c6, c7⟩ := quote_cells h.hq
  generalize MK.both q = x at *
  clear h
  go_enter Try.func87, Try.ntmps87
  go_wp2_with fail
  refine C.out.mono ?_
  rintro e w1 ⟨rfl, b1⟩
  have HB1 := Lib.hid b1
  clear b1
  go_wp2_with fail
  go_ret
  exact ⟨rfl, HB1.out⟩
theorem rule2b_any (h : RBox w p A cap q gp gq gw gl gt) (hk : MK.Ok p q) (hr : ¬ q.least ≤ TP.volN (MK.winQ q)) (hb : MK.both q = true) :
    Calls Try.prog 88 #[.pointer (some ⟨gq, 0, none⟩), .pointer (some ⟨gp, 0, none⟩)] w fun e w' => e = .returned (.tuple #[.int .i64 (MK.rawN p q), .int .i64 0]) ∧ Below w.heap.size w w' := by
  have C := Lib.hid (mid_any q.bid q.ask p.tick w)
  rw [MK.mid_fine hk hb] at C
  have e : MK.rawN p q = MK.midN q.bid q.ask p.tick := by unfold MK.rawN; rw [if_neg hr, if_pos hb]
  rw [e]
  obtain ⟨c0, c1, c2, c3, c4, c5, c6⟩ := h.hp.cells
  obtain ⟨d0, d1, d2, d3, d4, d5, d6, d7⟩ := quote_cells h.hq
  generalize MK.midN q.bid q.ask p.tick = x at *
  clear h hk hr e hb
  go_enter Try.func88, Try.ntmps88
  go_wp2_with fail
  refine C.out.mono ?_
  rintro e w1 ⟨rfl, b1⟩
  have HB1 := Lib.hid b1
  clear b1
  go_wp2_with fail
  go_ret2
  exact ⟨rfl, HB1.out⟩
theorem rule3a_any (h : RBox w p A cap q gp gq gw gl gt) :
    Calls Try.prog 89 #[.pointer (some ⟨gt, 0, none⟩)] w fun e w' => e = .returned (.bool (decide (0 < q.ticks.length))) ∧ Below w.heap.size w w' := by
  have k0 := h.ht.cell 0
  simp only [List.getElem?_toArray, List.getElem?_cons_zero] at k0
  generalize decide (0 < q.ticks.length) = x at *
  clear h
  go_enter Try.func89, Try.ntmps89
  go_wp2_with fail
  go_ret
  exact ⟨rfl, Below.refl _ _⟩
theorem rule3b_any (h : RBox w p A cap q gp gq gw gl gt) (hr : ¬ q.least ≤ TP.volN (MK.winQ q)) (hb : ¬ MK.both q = true) (h0 : 0 < q.ticks.length) :
    Calls Try.prog 90 #[.pointer (some ⟨gl, 0, none⟩), .pointer (some ⟨gq, 0, none⟩)] w fun e w' => e = .returned (.tuple #[.int .i64 (MK.rawN p q), .int .i64 0]) ∧ Below w.heap.size w w' := by
  have e : MK.rawN p q = MK.held (TP.lastT q.ticks).price q := by unfold MK.rawN; rw [if_neg hr, if_neg hb, if_pos h0]
  rw [e]
  have hl := h.hl
  generalize TP.lastT q.ticks = t at *
  have C := Lib.hid (held_any t.price A cap q w)
  obtain ⟨d0, d1, d2, d3, d4, d5, d6, d7⟩ := quote_cells h.hq
  have k0 := hl.cell 0
  have k1 := hl.cell 1
  have k2 := hl.cell 2
  simp only [List.getElem?_toArray, List.getElem?_cons_zero, List.getElem?_cons_succ] at k0 k1 k2
  generalize MK.held t.price q = x at *
  clear h hl hr e hb h0
  go_enter Try.func90, Try.ntmps90
  go_wp2_with fail
  refine C.out.mono ?_
  rintro e w1 ⟨rfl, b1⟩
  have HB1 := Lib.hid b1
  clear b1
  go_wp2_with fail
  go_ret2
  exact ⟨rfl, HB1.out⟩
theorem rule4a_any : Calls Try.prog 92 #[] w fun e w' => e = .returned (.bool true) ∧ Below w.heap.size w w' := by
  go_enter Try.func92, Try.ntmps92
  go_wp2_with fail
  go_ret
  exact ⟨rfl, Below.refl _ _⟩
set_option maxHeartbeats 4000000 in
theorem rule4b_any (h : RBox w p A cap q gp gq gw gl gt) (hpq : prodQ p) (hk : MK.Ok p q) (hr : ¬ q.least ≤ TP.volN (MK.winQ q)) (hb : ¬ MK.both q = true) (h0 : ¬ 0 < q.ticks.length) :
    Calls Try.prog 93 #[.pointer (some ⟨gp, 0, none⟩), .pointer (some ⟨gq, 0, none⟩)] w fun e w' => e = .returned (.tuple #[.int .i64 (MK.rawN p q), .int .i64 0]) ∧ Below w.heap.size w w' := by
  have e : MK.rawN p q = QM.roundN p (MK.moved q) 5 := by unfold MK.rawN; rw [if_neg hr, if_neg hb, if_neg h0]
  rw [e]
  have C1 := Lib.hid (fun ww => moved_any A cap q (MK.price_in hk.before) hk.move ww)
  have C2 := Lib.hid (fun ww => qround_any p (MK.moved q) 5 hpq ww)
  rw [MK.round_fine hk] at C2
  have HP : Hid (∀ ww, Below w.heap.size w ww → (ww.cell? ⟨gp, 0, none⟩ = some (.string p.name) ∧ ww.cell? ⟨gp, 1, none⟩ = some (.int .i64 p.cur) ∧ ww.cell? ⟨gp, 2, none⟩ = some (.int .i64 p.mult) ∧ ww.cell? ⟨gp, 3, none⟩ = some (.int .i64 p.tick) ∧ ww.cell? ⟨gp, 4, none⟩ = some (.int .i64 p.low) ∧
      ww.cell? ⟨gp, 5, none⟩ = some (.int .i64 p.high) ∧ ww.cell? ⟨gp, 6, none⟩ = some (.bool p.phys)) ∧ (ww.cell? ⟨gq, 0, none⟩ = some (.slice A q.ticks.length cap) ∧ ww.cell? ⟨gq, 1, none⟩ = some (.int .i64 q.from_) ∧ ww.cell? ⟨gq, 2, none⟩ = some (.int .i64 q.to_) ∧ ww.cell? ⟨gq, 3, none⟩ = some (.int .i64 q.least) ∧
      ww.cell? ⟨gq, 4, none⟩ = some (.int .i64 q.bid) ∧ ww.cell? ⟨gq, 5, none⟩ = some (.int .i64 q.ask) ∧ ww.cell? ⟨gq, 6, none⟩ = some (.int .i64 q.before) ∧ ww.cell? ⟨gq, 7, none⟩ = some (.int .i64 q.move))) :=
    Lib.hid (fun ww hb => ⟨(h.hp.below hb h.hp.lt).cells, quote_cells (h.hq.below hb h.hq.lt)⟩)
  have HBw : Hid (Below w.heap.size w w.drew) := Lib.hid (Below.refl _ _).drew
  generalize QM.roundN p (MK.moved q) 5 = x at *
  generalize MK.moved q = y at *
  clear h hk hr hb h0 e hpq
  go_enter Try.func93, Try.ntmps93
  go_wp2_with fail
  go_region_held3 (fun ww => (ww.cell? ⟨gp, 0, none⟩ = some (.string p.name) ∧ ww.cell? ⟨gp, 1, none⟩ = some (.int .i64 p.cur) ∧ ww.cell? ⟨gp, 2, none⟩ = some (.int .i64 p.mult) ∧ ww.cell? ⟨gp, 3, none⟩ = some (.int .i64 p.tick) ∧ ww.cell? ⟨gp, 4, none⟩ = some (.int .i64 p.low) ∧
      ww.cell? ⟨gp, 5, none⟩ = some (.int .i64 p.high) ∧ ww.cell? ⟨gp, 6, none⟩ = some (.bool p.phys)) ∧ (ww.cell? ⟨gq, 0, none⟩ = some (.slice A q.ticks.length cap) ∧ ww.cell? ⟨gq, 1, none⟩ = some (.int .i64 q.from_) ∧ ww.cell? ⟨gq, 2, none⟩ = some (.int .i64 q.to_) ∧ ww.cell? ⟨gq, 3, none⟩ = some (.int .i64 q.least) ∧
      ww.cell? ⟨gq, 4, none⟩ = some (.int .i64 q.bid) ∧ ww.cell? ⟨gq, 5, none⟩ = some (.int .i64 q.ask) ∧ ww.cell? ⟨gq, 6, none⟩ = some (.int .i64 q.before) ∧ ww.cell? ⟨gq, 7, none⟩ = some (.int .i64 q.move)))
    (exact HP.out _ HBw.out)
    (first
      | (go_at_call 95; refine (C1.out _).mono ?_; rintro e w6 ⟨rfl, b6⟩; replace HBw := Lib.hid (HBw.out.trans (b6.mono HBw.out.size)); clear b6)
      | (go_at_call 94; refine (C2.out _).mono ?_; rintro e w6 ⟨rfl, b6⟩; replace HBw := Lib.hid (HBw.out.trans (b6.mono HBw.out.size)); clear b6))
  all_goals (
    have HBF := Lib.hid HBw.out
    clear HP HBw C1 C2
    go_wp2_with fail
    go_ret2
    exact ⟨rfl, HBF.out⟩)
end
end Go.Proofs.Ytaegapcccboinaa

/- Contracts of layer 18: rules, Price. -/
namespace Go.Proofs.Ytaegapcccboinaa
open Go.RowKit Go.Recs
set_option linter.unusedVariables false
set_option linter.unusedSimpArgs false
abbrev rC (gp gq gw gl gt : Nat) : Array Value := #[.func (.func 84) #[] #[.pointer (some ⟨gw, 0, none⟩), .pointer (some ⟨gq, 0, none⟩)], .func (.func 86) #[] #[.pointer (some ⟨gw, 0, none⟩), .pointer (some ⟨gp, 0, none⟩)],
  .func (.func 87) #[] #[.pointer (some ⟨gq, 0, none⟩)], .func (.func 88) #[] #[.pointer (some ⟨gq, 0, none⟩), .pointer (some ⟨gp, 0, none⟩)],
  .func (.func 89) #[] #[.pointer (some ⟨gt, 0, none⟩)], .func (.func 90) #[] #[.pointer (some ⟨gl, 0, none⟩), .pointer (some ⟨gq, 0, none⟩)],
  .func (.func 92) #[] #[], .func (.func 93) #[] #[.pointer (some ⟨gp, 0, none⟩), .pointer (some ⟨gq, 0, none⟩)]]
set_option maxRecDepth 100000 in
set_option maxHeartbeats 8000000 in
theorem rules_any (p : QM.Prod) (A : Option Addr) (cap : Nat) (q : MK.Quote) (hl : q.ticks.length ≤ 1048576) (w : World) (hI : Ticks w A q.ticks) :
    Calls Try.prog 50 #[prodA p, qA A cap q] w fun e w' => ∃ gp gq gw gl gt gr, e = .returned (.slice (some ⟨gr, 0, none⟩) 4 4) ∧ RBox w' p A cap q gp gq gw gl gt ∧ CB w' gr 92 (rC gp gq gw gl gt) ∧ Below w.heap.size w w' := by
  have hmf : ∀ (fn : Fn) (first cap : Array Value) (w : World), (Instr.makeFunc fn first cap).run Try.prog w = .ok (.func fn first cap) w := fun _ _ _ _ => rfl
  have HB0 := Lib.hid (below_al (below_al (Below.refl w.heap.size w) (.cells #[.string p.name, .int .i64 p.cur, .int .i64 p.mult, .int .i64 p.tick, .int .i64 p.low, .int .i64 p.high, .bool p.phys] 42)) (.cells (qC A cap q) 44))
  have HP0 : Hid (PBox ((w.alloc (.cells #[.string p.name, .int .i64 p.cur, .int .i64 p.mult, .int .i64 p.tick, .int .i64 p.low, .int .i64 p.high, .bool p.phys] 42)).alloc (.cells (qC A cap q) 44)) w.heap.size p) := Lib.hid ((PBox.new w p).alloc _)
  have HQ0 := Lib.hid (CB.new1 w (.cells #[.string p.name, .int .i64 p.cur, .int .i64 p.mult, .int .i64 p.tick, .int .i64 p.low, .int .i64 p.high, .bool p.phys] 42) 44 (qC A cap q))
  have HI := Lib.hid (hI.below HB0.out)
  have CW := Lib.hid (fun ww h => window_any A q.ticks q.ticks.length cap q.from_ q.to_ rfl hl ww h)
  have CL := Lib.hid (fun ww h => last_any A q.ticks q.ticks.length cap rfl ww h)
  have hwq : TP.win q.ticks q.from_ q.to_ = MK.winQ q := rfl
  rw [hwq] at CW
  have HWQ : Hid (∀ x ∈ MK.winQ q, tickQ x) := Lib.hid (fun x hx => hI.2 x (TP.win_mem.1 hx).1)
  obtain ⟨c0, c1, c2, c3, c4, c5, c6, c7⟩ := quote_cells HQ0.out
  clear hI hwq hl
  go_enter Try.func50, Try.ntmps50
  go_wp2_with fail
  generalize (w.alloc (.cells #[.string p.name, .int .i64 p.cur, .int .i64 p.mult, .int .i64 p.tick, .int .i64 p.low, .int .i64 p.high, .bool p.phys] 42)).alloc (.cells #[.slice A q.ticks.length cap, .int .i64 q.from_, .int .i64 q.to_, .int .i64 q.least, .int .i64 q.bid, .int .i64 q.ask, .int .i64 q.before, .int .i64 q.move] 44) = w0 at *
  refine (CW.out _ HI.out).mono ?_
  rintro e w1 ⟨v, rfl, ho, b1⟩
  obtain ⟨B, k, rfl, hT, _⟩ := OwnT.tr (f := tickV) (Q := tickQ) ho HWQ.out
  have HBa := Lib.hid (below_al (HB0.out.trans (b1.mono HB0.out.size)) (.cells #[.slice B (MK.winQ q).length k] 22))
  have HPa := Lib.hid ((HP0.out.below b1 HP0.out.lt).alloc (.cells #[.slice B (MK.winQ q).length k] 22))
  have HQa := Lib.hid ((HQ0.out.below b1 HQ0.out.lt).alloc (.cells #[.slice B (MK.winQ q).length k] 22))
  have HIa := Lib.hid ((HI.out.below b1).below ((Below.refl w1.heap.size w1).alloc (Nat.le_refl _) (.cells #[.slice B (MK.winQ q).length k] 22)))
  have HTa := Lib.hid (hT.below ((Below.refl w1.heap.size w1).alloc (Nat.le_refl _) (.cells #[.slice B (MK.winQ q).length k] 22)))
  have HWa := Lib.hid (CB.new w1 22 #[.slice B (MK.winQ q).length k])
  clear c0 c1 c2 c3 c4 c5 c6 c7 HP0 HQ0 HI HB0 b1 ho hT HWQ CW
  obtain ⟨c0, c1, c2, c3, c4, c5, c6, c7⟩ := quote_cells HQa.out
  go_wp2_with fail
  generalize w1.alloc (.cells #[.slice B (MK.winQ q).length k] 22) = wa at *
  refine (CL.out _ HIa.out).mono ?_
  rintro e w2 ⟨rfl, b2⟩
  have HB2 := Lib.hid (HBa.out.trans (b2.mono HBa.out.size))
  have HP2 := Lib.hid (HPa.out.below b2 HPa.out.lt)
  have HQ2 := Lib.hid (HQa.out.below b2 HQa.out.lt)
  have HT2 := Lib.hid (HTa.out.below b2)
  have HW2 := Lib.hid (HWa.out.below b2 HWa.out.lt)
  clear b2 HBa HPa HQa HIa HTa HWa c0 c1 c2 c3 c4 c5 c6 c7
  go_wp2_with fail
  go_ret
  refine ⟨w.heap.size, w.heap.size + 1, w1.heap.size, w2.heap.size, w2.heap.size + 1, w2.heap.size + 1 + 1, rfl, ⟨?_, ?_, ⟨B, k, ?_, ?_⟩, ?_, ?_⟩, ?_, ?_⟩
  · exact ((HP2.out.alloc _).alloc _).alloc _
  · exact ((HQ2.out.alloc _).alloc _).alloc _
  · exact ((HW2.out.alloc _).alloc _).alloc _
  · exact ((HT2.out.below (below_al (Below.refl _ _) _)).below (below_al (Below.refl _ _) _)).below (below_al (Below.refl _ _) _)
  · exact ((CB.new _ _ _).alloc _).alloc _
  · exact (CB.new1 _ _ _ _).alloc _
  · exact CB.new2 _ _ _ _ _
  · exact below_al (below_al (below_al HB2.out _) _) _
set_option maxRecDepth 100000 in
set_option maxHeartbeats 8000000 in
theorem price18_any (p : QM.Prod) (hp : prodQ p) (A : Option Addr) (cap : Nat) (q : MK.Quote) (hq : quoteQ q) (w : World) (hI : Ticks w A q.ticks) :
    Calls Try.prog 21 #[prodA p, qA A cap q] w fun e w' => e = .returned (.tuple #[.int .i64 (MK.priceN p q), .int .i64 (MK.ruleR p q), .int .i64 (MK.qE p q)]) ∧ Below w.heap.size w w' := by
  have CC := Lib.hid (fun ww h => mcheck18_any p hp A cap q hq ww h)
  have HB0 := Lib.hid (below_al (below_al (Below.refl w.heap.size w) (.cells #[.string p.name, .int .i64 p.cur, .int .i64 p.mult, .int .i64 p.tick, .int .i64 p.low, .int .i64 p.high, .bool p.phys] 42)) (.cells (qC A cap q) 44))
  have HP0 : Hid (PBox ((w.alloc (.cells #[.string p.name, .int .i64 p.cur, .int .i64 p.mult, .int .i64 p.tick, .int .i64 p.low, .int .i64 p.high, .bool p.phys] 42)).alloc (.cells (qC A cap q) 44)) w.heap.size p) := Lib.hid ((PBox.new w p).alloc _)
  have HQ0 := Lib.hid (CB.new1 w (.cells #[.string p.name, .int .i64 p.cur, .int .i64 p.mult, .int .i64 p.tick, .int .i64 p.low, .int .i64 p.high, .bool p.phys] 42) 44 (qC A cap q))
  have HI := Lib.hid (hI.below HB0.out)
  obtain ⟨c0, c1, c2, c3, c4, c5, c6, c7⟩ := quote_cells HQ0.out
  obtain ⟨d0, d1, d2, d3, d4, d5, d6⟩ := HP0.out.cells
  by_cases hk : MK.qE p q = 0
  · have hok := MK.ok_of hk
    have hl : q.ticks.length ≤ 1048576 := by have := (TP.good hok.tape).len; omega
    have CR := Lib.hid (fun ww h => rules_any p A cap q hl ww h)
    have CLP := Lib.hid (fun x ww => clamp_any x p.low p.high ww)
    have e1 : MK.priceN p q = CM.clamp (MK.rawN p q) p.low p.high := by unfold MK.priceN; rw [if_pos hk]
    have e2 : MK.ruleR p q = MK.ruleN q := by unfold MK.ruleR; rw [if_pos hk]
    rw [e1, e2]
    rw [hk] at CC ⊢
    have HOK := Lib.hid hok
    have HPQ := Lib.hid hp
    have KR : Hid ((q.least ≤ TP.volN (MK.winQ q) → MK.ruleN q = 1) ∧ (¬ q.least ≤ TP.volN (MK.winQ q) → MK.both q = true → MK.ruleN q = 2) ∧ (¬ q.least ≤ TP.volN (MK.winQ q) → ¬ MK.both q = true → 0 < q.ticks.length → MK.ruleN q = 3) ∧ (¬ q.least ≤ TP.volN (MK.winQ q) → ¬ MK.both q = true → ¬ 0 < q.ticks.length → MK.ruleN q = 4)) :=
      Lib.hid ⟨fun h => by unfold MK.ruleN; rw [if_pos h], fun h h2 => by unfold MK.ruleN; rw [if_neg h, if_pos h2], fun h h2 h3 => by unfold MK.ruleN; rw [if_neg h, if_neg h2, if_pos h3], fun h h2 h3 => by unfold MK.ruleN; rw [if_neg h, if_neg h2, if_neg h3]⟩
    generalize MK.ruleN q = rn at *
    clear hk hok hl e1 e2 hI hp hq
    have CM2 := Lib.hid (fun ww => CLP.out (MK.rawN p q) ww)
    generalize hcl : CM.clamp (MK.rawN p q) p.low p.high = cl at *
    clear hcl CLP
    go_enter Try.func21, Try.ntmps21
    go_wp2_with fail
    generalize (w.alloc (.cells #[.string p.name, .int .i64 p.cur, .int .i64 p.mult, .int .i64 p.tick, .int .i64 p.low, .int .i64 p.high, .bool p.phys] 42)).alloc (.cells #[.slice A q.ticks.length cap, .int .i64 q.from_, .int .i64 q.to_, .int .i64 q.least, .int .i64 q.bid, .int .i64 q.ask, .int .i64 q.before, .int .i64 q.move] 44) = w0 at *
    refine (CC.out _ HI.out).mono ?_
    rintro e w1 ⟨rfl, b1⟩
    have HB1 := Lib.hid (HB0.out.trans (b1.mono HB0.out.size))
    have HP1 := Lib.hid (HP0.out.below b1 HP0.out.lt)
    have HQ1 := Lib.hid (HQ0.out.below b1 HQ0.out.lt)
    have HI1 := Lib.hid (HI.out.below b1)
    clear b1 c0 c1 c2 c3 c4 c5 c6 c7 d0 d1 d2 d3 d4 d5 d6 HP0 HQ0 HI HB0 CC
    obtain ⟨c0, c1, c2, c3, c4, c5, c6, c7⟩ := quote_cells HQ1.out
    obtain ⟨d0, d1, d2, d3, d4, d5, d6⟩ := HP1.out.cells
    go_wp2_with fail
    refine (CR.out _ HI1.out).mono ?_
    rintro e w2 ⟨gp, gq, gw, gl, gt, gr, rfl, hR, hF, b2⟩
    have HB2 := Lib.hid (HB1.out.trans (b2.mono HB1.out.size))
    have HP2 := Lib.hid (HP1.out.below b2 HP1.out.lt)
    have HR2 := Lib.hid hR
    have HF2 := Lib.hid hF
    clear b2 hR hF c0 c1 c2 c3 c4 c5 c6 c7 d0 d1 d2 d3 d4 d5 d6 HP1 HQ1 HI1 HB1 CR
    go_wp2_with fail
    go_loopw [4, 5, 6, 8, 9, 20] (fun _ _ _ _ _ i wr => ∃ k : Nat, k ≤ 3 ∧ i = .int .i64 (k : Int) ∧ Hid (0 < k → TP.volN (MK.winQ q) < q.least) ∧ Hid (1 < k → MK.both q = false) ∧ Hid (2 < k → q.ticks = []) ∧ Hid (Below w2.heap.size w2 wr)) (fun _ _ _ _ _ i _ => 4 - (intOf i).toNat)
    case atStart => exact ⟨0, by omega, rfl, Lib.hid (fun h => absurd h (by omega)), Lib.hid (fun h => absurd h (by omega)), Lib.hid (fun h => absurd h (by omega)), Lib.hid (Below.refl _ _)⟩
    case round =>
      obtain ⟨k, hk, rfl, H1, H2, H3, HW⟩ := hrel
      rcases (by omega : k = 0 ∨ k = 1 ∨ k = 2 ∨ k = 3) with rfl | rfl | rfl | rfl
      · have HPr := Lib.hid (HP2.out.below HW.out HP2.out.lt)
        have HRr := HR2.out.below HW.out
        have HFr := HF2.out.below HW.out HF2.out.lt
        have k0 : wr.cell? ⟨gr, 0, none⟩ = some (.func (.func 84) #[] #[.pointer (some ⟨gw, 0, none⟩), .pointer (some ⟨gq, 0, none⟩)]) := HFr.cell 0
        have k1 : wr.cell? ⟨gr, 1, none⟩ = some (.func (.func 86) #[] #[.pointer (some ⟨gw, 0, none⟩), .pointer (some ⟨gp, 0, none⟩)]) := HFr.cell 1
        have klt := HFr.lt
        have HX := CB.new wr 92 #[.func (.func 84) #[] #[.pointer (some ⟨gw, 0, none⟩), .pointer (some ⟨gq, 0, none⟩)], .func (.func 86) #[] #[.pointer (some ⟨gw, 0, none⟩), .pointer (some ⟨gp, 0, none⟩)]]
        have x0 := HX.cell 0
        have x1 := HX.cell 1
        simp only [List.getElem?_toArray, List.getElem?_cons_zero, List.getElem?_cons_succ] at x0 x1
        have HRa := Lib.hid (HRr.below (below_al (Below.refl _ _) (.cells #[.func (.func 84) #[] #[.pointer (some ⟨gw, 0, none⟩), .pointer (some ⟨gq, 0, none⟩)], .func (.func 86) #[] #[.pointer (some ⟨gw, 0, none⟩), .pointer (some ⟨gp, 0, none⟩)]] 92)))
        have HPa := Lib.hid (HPr.out.alloc (.cells #[.func (.func 84) #[] #[.pointer (some ⟨gw, 0, none⟩), .pointer (some ⟨gq, 0, none⟩)], .func (.func 86) #[] #[.pointer (some ⟨gw, 0, none⟩), .pointer (some ⟨gp, 0, none⟩)]] 92))
        have HWa := Lib.hid (below_al HW.out (.cells #[.func (.func 84) #[] #[.pointer (some ⟨gw, 0, none⟩), .pointer (some ⟨gq, 0, none⟩)], .func (.func 86) #[] #[.pointer (some ⟨gw, 0, none⟩), .pointer (some ⟨gp, 0, none⟩)]] 92))
        have HXa := Lib.hid HX
        have CA := Lib.hid (fun ww (h : RBox ww p A cap q gp gq gw gl gt) => rule1a_any (w := ww) h HOK.out)
        clear HPr HRr HFr HX
        go_wp2_with fail
        generalize wr.alloc (.cells #[.func (.func 84) #[] #[.pointer (some ⟨gw, 0, none⟩), .pointer (some ⟨gq, 0, none⟩)], .func (.func 86) #[] #[.pointer (some ⟨gw, 0, none⟩), .pointer (some ⟨gp, 0, none⟩)]] 92) = wa at *
        refine (CA.out _ HRa.out).mono ?_
        rintro e w3 ⟨rfl, b3⟩
        have HR3 := Lib.hid (HRa.out.below b3)
        have HP3 := Lib.hid (HPa.out.below b3 HPa.out.lt)
        have HX3 := Lib.hid (HXa.out.below b3 HXa.out.lt)
        have HW3 := Lib.hid (HWa.out.trans (b3.mono HWa.out.size))
        clear b3 x0 x1 k0 k1 klt HRa HPa HXa HWa HW
        by_cases hc : q.least ≤ TP.volN (MK.winQ q)
        · rw [decide_eq_true hc]
          have HK := Lib.hid (KR.out.1 hc)
          have CB1 := Lib.hid (fun ww (h : RBox ww p A cap q gp gq gw gl gt) => rule1b_any h HOK.out hc)
          have x0 := HX3.out.cell 0
          have x1 := HX3.out.cell 1
          simp only [List.getElem?_toArray, List.getElem?_cons_zero, List.getElem?_cons_succ] at x0 x1
          clear hc
          go_wp2_with fail
          refine (CB1.out _ HR3.out).mono ?_
          rintro e w4 ⟨rfl, b4⟩
          have HW4 := Lib.hid (HW3.out.trans (b4.mono HW3.out.size))
          obtain ⟨d0, d1, d2, d3, d4, d5, d6⟩ := (HP3.out.below b4 HP3.out.lt).cells
          clear b4 x0 x1
          generalize MK.rawN p q = raw at *
          go_wp2_with fail
          refine (CM2.out _).mono ?_
          rintro e w5 ⟨rfl, rfl⟩
          have HBF := Lib.hid (HB2.out.trans (HW4.out.mono HB2.out.size))
          go_wp2_with fail
          (try simp only [Exit.inBlock, Exit.then])
          go_ret3
          exact ⟨by rw [HK.out] <;> rfl, HBF.out⟩
        · rw [decide_eq_false hc]
          have N1 : Hid (0 < 1 → TP.volN (MK.winQ q) < q.least) := Lib.hid (fun _ => by omega)
          have N2 : Hid (1 < 1 → MK.both q = false) := Lib.hid (fun h => absurd h (by omega))
          have N3 : Hid (2 < 1 → q.ticks = []) := Lib.hid (fun h => absurd h (by omega))
          clear hc
          go_wp2_with fail
          go_roundw
          case rel => exact ⟨1, by omega, by go_num, Lib.hid (fun _ => N1.out (by omega)), N2, N3, HW3⟩
          case measure => simp [intOf]
      · have HPr := Lib.hid (HP2.out.below HW.out HP2.out.lt)
        have HRr := HR2.out.below HW.out
        have HFr := HF2.out.below HW.out HF2.out.lt
        have k0 : wr.cell? ⟨gr, 2, none⟩ = some (.func (.func 87) #[] #[.pointer (some ⟨gq, 0, none⟩)]) := HFr.cell 2
        have k1 : wr.cell? ⟨gr, 3, none⟩ = some (.func (.func 88) #[] #[.pointer (some ⟨gq, 0, none⟩), .pointer (some ⟨gp, 0, none⟩)]) := HFr.cell 3
        have klt := HFr.lt
        have HX := CB.new wr 92 #[.func (.func 87) #[] #[.pointer (some ⟨gq, 0, none⟩)], .func (.func 88) #[] #[.pointer (some ⟨gq, 0, none⟩), .pointer (some ⟨gp, 0, none⟩)]]
        have x0 := HX.cell 0
        have x1 := HX.cell 1
        simp only [List.getElem?_toArray, List.getElem?_cons_zero, List.getElem?_cons_succ] at x0 x1
        have HRa := Lib.hid (HRr.below (below_al (Below.refl _ _) (.cells #[.func (.func 87) #[] #[.pointer (some ⟨gq, 0, none⟩)], .func (.func 88) #[] #[.pointer (some ⟨gq, 0, none⟩), .pointer (some ⟨gp, 0, none⟩)]] 92)))
        have HPa := Lib.hid (HPr.out.alloc (.cells #[.func (.func 87) #[] #[.pointer (some ⟨gq, 0, none⟩)], .func (.func 88) #[] #[.pointer (some ⟨gq, 0, none⟩), .pointer (some ⟨gp, 0, none⟩)]] 92))
        have HWa := Lib.hid (below_al HW.out (.cells #[.func (.func 87) #[] #[.pointer (some ⟨gq, 0, none⟩)], .func (.func 88) #[] #[.pointer (some ⟨gq, 0, none⟩), .pointer (some ⟨gp, 0, none⟩)]] 92))
        have HXa := Lib.hid HX
        have CA := Lib.hid (fun ww (h : RBox ww p A cap q gp gq gw gl gt) => rule2a_any (w := ww) h)
        clear HPr HRr HFr HX
        go_wp2_with fail
        generalize wr.alloc (.cells #[.func (.func 87) #[] #[.pointer (some ⟨gq, 0, none⟩)], .func (.func 88) #[] #[.pointer (some ⟨gq, 0, none⟩), .pointer (some ⟨gp, 0, none⟩)]] 92) = wa at *
        refine (CA.out _ HRa.out).mono ?_
        rintro e w3 ⟨rfl, b3⟩
        have HR3 := Lib.hid (HRa.out.below b3)
        have HP3 := Lib.hid (HPa.out.below b3 HPa.out.lt)
        have HX3 := Lib.hid (HXa.out.below b3 HXa.out.lt)
        have HW3 := Lib.hid (HWa.out.trans (b3.mono HWa.out.size))
        clear b3 x0 x1 k0 k1 klt HRa HPa HXa HWa HW
        by_cases hc : MK.both q = true
        · rw [hc]
          have HK := Lib.hid (KR.out.2.1 (by first | exact H1.out (by omega) | exact Int.not_le.2 (H1.out (by omega))) hc)
          have CB1 := Lib.hid (fun ww (h : RBox ww p A cap q gp gq gw gl gt) => rule2b_any h HOK.out (Int.not_le.2 (H1.out (by omega))) hc)
          have x0 := HX3.out.cell 0
          have x1 := HX3.out.cell 1
          simp only [List.getElem?_toArray, List.getElem?_cons_zero, List.getElem?_cons_succ] at x0 x1
          clear hc
          go_wp2_with fail
          refine (CB1.out _ HR3.out).mono ?_
          rintro e w4 ⟨rfl, b4⟩
          have HW4 := Lib.hid (HW3.out.trans (b4.mono HW3.out.size))
          obtain ⟨d0, d1, d2, d3, d4, d5, d6⟩ := (HP3.out.below b4 HP3.out.lt).cells
          clear b4 x0 x1
          generalize MK.rawN p q = raw at *
          go_wp2_with fail
          refine (CM2.out _).mono ?_
          rintro e w5 ⟨rfl, rfl⟩
          have HBF := Lib.hid (HB2.out.trans (HW4.out.mono HB2.out.size))
          go_wp2_with fail
          (try simp only [Exit.inBlock, Exit.then])
          go_ret3
          exact ⟨by rw [HK.out] <;> rfl, HBF.out⟩
        · rw [Bool.eq_false_iff.2 hc]
          have N1 : Hid (0 < 2 → TP.volN (MK.winQ q) < q.least) := Lib.hid (fun _ => H1.out (by omega))
          have N2 : Hid (1 < 2 → MK.both q = false) := Lib.hid (fun _ => by simpa using hc)
          have N3 : Hid (2 < 2 → q.ticks = []) := Lib.hid (fun h => absurd h (by omega))
          clear hc
          go_wp2_with fail
          go_roundw
          case rel => exact ⟨2, by omega, by go_num, Lib.hid (fun _ => N1.out (by omega)), N2, N3, HW3⟩
          case measure => simp [intOf]
      · have HPr := Lib.hid (HP2.out.below HW.out HP2.out.lt)
        have HRr := HR2.out.below HW.out
        have HFr := HF2.out.below HW.out HF2.out.lt
        have k0 : wr.cell? ⟨gr, 4, none⟩ = some (.func (.func 89) #[] #[.pointer (some ⟨gt, 0, none⟩)]) := HFr.cell 4
        have k1 : wr.cell? ⟨gr, 5, none⟩ = some (.func (.func 90) #[] #[.pointer (some ⟨gl, 0, none⟩), .pointer (some ⟨gq, 0, none⟩)]) := HFr.cell 5
        have klt := HFr.lt
        have HX := CB.new wr 92 #[.func (.func 89) #[] #[.pointer (some ⟨gt, 0, none⟩)], .func (.func 90) #[] #[.pointer (some ⟨gl, 0, none⟩), .pointer (some ⟨gq, 0, none⟩)]]
        have x0 := HX.cell 0
        have x1 := HX.cell 1
        simp only [List.getElem?_toArray, List.getElem?_cons_zero, List.getElem?_cons_succ] at x0 x1
        have HRa := Lib.hid (HRr.below (below_al (Below.refl _ _) (.cells #[.func (.func 89) #[] #[.pointer (some ⟨gt, 0, none⟩)], .func (.func 90) #[] #[.pointer (some ⟨gl, 0, none⟩), .pointer (some ⟨gq, 0, none⟩)]] 92)))
        have HPa := Lib.hid (HPr.out.alloc (.cells #[.func (.func 89) #[] #[.pointer (some ⟨gt, 0, none⟩)], .func (.func 90) #[] #[.pointer (some ⟨gl, 0, none⟩), .pointer (some ⟨gq, 0, none⟩)]] 92))
        have HWa := Lib.hid (below_al HW.out (.cells #[.func (.func 89) #[] #[.pointer (some ⟨gt, 0, none⟩)], .func (.func 90) #[] #[.pointer (some ⟨gl, 0, none⟩), .pointer (some ⟨gq, 0, none⟩)]] 92))
        have HXa := Lib.hid HX
        have CA := Lib.hid (fun ww (h : RBox ww p A cap q gp gq gw gl gt) => rule3a_any (w := ww) h)
        clear HPr HRr HFr HX
        go_wp2_with fail
        generalize wr.alloc (.cells #[.func (.func 89) #[] #[.pointer (some ⟨gt, 0, none⟩)], .func (.func 90) #[] #[.pointer (some ⟨gl, 0, none⟩), .pointer (some ⟨gq, 0, none⟩)]] 92) = wa at *
        refine (CA.out _ HRa.out).mono ?_
        rintro e w3 ⟨rfl, b3⟩
        have HR3 := Lib.hid (HRa.out.below b3)
        have HP3 := Lib.hid (HPa.out.below b3 HPa.out.lt)
        have HX3 := Lib.hid (HXa.out.below b3 HXa.out.lt)
        have HW3 := Lib.hid (HWa.out.trans (b3.mono HWa.out.size))
        clear b3 x0 x1 k0 k1 klt HRa HPa HXa HWa HW
        by_cases hc : 0 < q.ticks.length
        · rw [decide_eq_true hc]
          have HK := Lib.hid (KR.out.2.2.1 (by first | exact H1.out (by omega) | exact Int.not_le.2 (H1.out (by omega))) (by first | exact H2.out (by omega) | (rw [H2.out (by omega)]; decide)) hc)
          have CB1 := Lib.hid (fun ww (h : RBox ww p A cap q gp gq gw gl gt) => rule3b_any h (Int.not_le.2 (H1.out (by omega))) (by rw [H2.out (by omega)]; decide) hc)
          have x0 := HX3.out.cell 0
          have x1 := HX3.out.cell 1
          simp only [List.getElem?_toArray, List.getElem?_cons_zero, List.getElem?_cons_succ] at x0 x1
          clear hc
          go_wp2_with fail
          refine (CB1.out _ HR3.out).mono ?_
          rintro e w4 ⟨rfl, b4⟩
          have HW4 := Lib.hid (HW3.out.trans (b4.mono HW3.out.size))
          obtain ⟨d0, d1, d2, d3, d4, d5, d6⟩ := (HP3.out.below b4 HP3.out.lt).cells
          clear b4 x0 x1
          generalize MK.rawN p q = raw at *
          go_wp2_with fail
          refine (CM2.out _).mono ?_
          rintro e w5 ⟨rfl, rfl⟩
          have HBF := Lib.hid (HB2.out.trans (HW4.out.mono HB2.out.size))
          go_wp2_with fail
          (try simp only [Exit.inBlock, Exit.then])
          go_ret3
          exact ⟨by rw [HK.out] <;> rfl, HBF.out⟩
        · rw [decide_eq_false hc]
          have N1 : Hid (0 < 3 → TP.volN (MK.winQ q) < q.least) := Lib.hid (fun _ => H1.out (by omega))
          have N2 : Hid (1 < 3 → MK.both q = false) := Lib.hid (fun _ => H2.out (by omega))
          have N3 : Hid (2 < 3 → q.ticks = []) := Lib.hid (fun _ => List.eq_nil_of_length_eq_zero (by omega))
          clear hc
          go_wp2_with fail
          go_roundw
          case rel => exact ⟨3, by omega, by go_num, Lib.hid (fun _ => N1.out (by omega)), N2, N3, HW3⟩
          case measure => simp [intOf]
      · have HPr := Lib.hid (HP2.out.below HW.out HP2.out.lt)
        have HRr := HR2.out.below HW.out
        have HFr := HF2.out.below HW.out HF2.out.lt
        have k0 : wr.cell? ⟨gr, 6, none⟩ = some (.func (.func 92) #[] #[]) := HFr.cell 6
        have k1 : wr.cell? ⟨gr, 7, none⟩ = some (.func (.func 93) #[] #[.pointer (some ⟨gp, 0, none⟩), .pointer (some ⟨gq, 0, none⟩)]) := HFr.cell 7
        have klt := HFr.lt
        have HX := CB.new wr 92 #[.func (.func 92) #[] #[], .func (.func 93) #[] #[.pointer (some ⟨gp, 0, none⟩), .pointer (some ⟨gq, 0, none⟩)]]
        have x0 := HX.cell 0
        have x1 := HX.cell 1
        simp only [List.getElem?_toArray, List.getElem?_cons_zero, List.getElem?_cons_succ] at x0 x1
        have HRa := Lib.hid (HRr.below (below_al (Below.refl _ _) (.cells #[.func (.func 92) #[] #[], .func (.func 93) #[] #[.pointer (some ⟨gp, 0, none⟩), .pointer (some ⟨gq, 0, none⟩)]] 92)))
        have HPa := Lib.hid (HPr.out.alloc (.cells #[.func (.func 92) #[] #[], .func (.func 93) #[] #[.pointer (some ⟨gp, 0, none⟩), .pointer (some ⟨gq, 0, none⟩)]] 92))
        have HWa := Lib.hid (below_al HW.out (.cells #[.func (.func 92) #[] #[], .func (.func 93) #[] #[.pointer (some ⟨gp, 0, none⟩), .pointer (some ⟨gq, 0, none⟩)]] 92))
        have HXa := Lib.hid HX
        have CA := Lib.hid (fun ww (h : RBox ww p A cap q gp gq gw gl gt) => rule4a_any (w := ww))
        clear HPr HRr HFr HX
        go_wp2_with fail
        generalize wr.alloc (.cells #[.func (.func 92) #[] #[], .func (.func 93) #[] #[.pointer (some ⟨gp, 0, none⟩), .pointer (some ⟨gq, 0, none⟩)]] 92) = wa at *
        refine (CA.out _ HRa.out).mono ?_
        rintro e w3 ⟨rfl, b3⟩
        have HR3 := Lib.hid (HRa.out.below b3)
        have HP3 := Lib.hid (HPa.out.below b3 HPa.out.lt)
        have HX3 := Lib.hid (HXa.out.below b3 HXa.out.lt)
        have HW3 := Lib.hid (HWa.out.trans (b3.mono HWa.out.size))
        clear b3 x0 x1 k0 k1 klt HRa HPa HXa HWa HW
        have HK := Lib.hid (KR.out.2.2.2 (by first | exact H1.out (by omega) | exact Int.not_le.2 (H1.out (by omega))) (by first | exact H2.out (by omega) | (rw [H2.out (by omega)]; decide)) (by first | exact H3.out (by omega) | (rw [H3.out (by omega)]; decide)))
        have CB1 := Lib.hid (fun ww (h : RBox ww p A cap q gp gq gw gl gt) => rule4b_any h HPQ.out HOK.out (Int.not_le.2 (H1.out (by omega))) (by rw [H2.out (by omega)]; decide) (by rw [H3.out (by omega)]; decide))
        have x0 := HX3.out.cell 0
        have x1 := HX3.out.cell 1
        simp only [List.getElem?_toArray, List.getElem?_cons_zero, List.getElem?_cons_succ] at x0 x1
        go_wp2_with fail
        refine (CB1.out _ HR3.out).mono ?_
        rintro e w4 ⟨rfl, b4⟩
        have HW4 := Lib.hid (HW3.out.trans (b4.mono HW3.out.size))
        obtain ⟨d0, d1, d2, d3, d4, d5, d6⟩ := (HP3.out.below b4 HP3.out.lt).cells
        clear b4 x0 x1
        generalize MK.rawN p q = raw at *
        go_wp2_with fail
        refine (CM2.out _).mono ?_
        rintro e w5 ⟨rfl, rfl⟩
        have HBF := Lib.hid (HB2.out.trans (HW4.out.mono HB2.out.size))
        go_wp2_with fail
        (try simp only [Exit.inBlock, Exit.then])
        go_ret3
        exact ⟨by rw [HK.out] <;> rfl, HBF.out⟩
  · have e1 : MK.priceN p q = 0 := by unfold MK.priceN; rw [if_neg hk]
    have e2 : MK.ruleR p q = 0 := by unfold MK.ruleR; rw [if_neg hk]
    rw [e1, e2]
    generalize MK.qE p q = x at *
    have hne : (x != 0) = true := by simpa using hk
    clear hk e1 e2 hI hp hq
    go_enter Try.func21, Try.ntmps21
    go_wp2_with fail
    generalize (w.alloc (.cells #[.string p.name, .int .i64 p.cur, .int .i64 p.mult, .int .i64 p.tick, .int .i64 p.low, .int .i64 p.high, .bool p.phys] 42)).alloc (.cells #[.slice A q.ticks.length cap, .int .i64 q.from_, .int .i64 q.to_, .int .i64 q.least, .int .i64 q.bid, .int .i64 q.ask, .int .i64 q.before, .int .i64 q.move] 44) = w0 at *
    refine (CC.out _ HI.out).mono ?_
    rintro e w1 ⟨rfl, b1⟩
    have HB1 := Lib.hid (HB0.out.trans (b1.mono HB0.out.size))
    clear b1 c0 c1 c2 c3 c4 c5 c6 c7 d0 d1 d2 d3 d4 d5 d6
    go_wp2_with fail
    go_ret3
    exact ⟨rfl, HB1.out⟩
end Go.Proofs.Ytaegapcccboinaa

/- Contracts of layer 18: the examples. -/
namespace MK
def oilM : QM.Prod := ⟨⟨#[111, 105, 108]⟩, 0, 1, 5, 0, 1000, false⟩
def tk1 : TP.Tick := ⟨150, 6, 20⟩
def tk2 : TP.Tick := ⟨160, 4, 30⟩
def q1 : Quote := ⟨[tk1, tk2], 100, 200, 10, 0, 0, 50, 0⟩
def q2 : Quote := ⟨[tk1], 100, 200, 10, 25, 0, 50, 0⟩
def q3 : Quote := ⟨[], 100, 200, 10, 0, 0, 50, -7⟩
theorem q1_is : priceN oilM q1 = 25 ∧ ruleR oilM q1 = 1 ∧ qE oilM q1 = 0 := by decide
theorem q2_is : priceN oilM q2 = 25 ∧ ruleR oilM q2 = 3 ∧ qE oilM q2 = 0 := by decide
theorem q3_is : priceN oilM q3 = 45 ∧ ruleR oilM q3 = 4 ∧ qE oilM q3 = 0 := by decide
theorem mid_is : midN 20 25 5 = 20 ∧ midE 20 25 5 = 0 := by decide
end MK
namespace Go.Proofs.Ytaegapcccboinaa
open Go.RowKit Go.Recs
set_option linter.unusedVariables false
set_option linter.unusedSimpArgs false
theorem results_prod18 {fn : Func} {p : Tmp} (h : fn.results = #[.cell p 42]) (tmps : Array Value) (w : World) (g : Nat) (x : QM.Prod)
    (hp : tmps.getD p undef = .pointer (some ⟨g, 0, none⟩)) (hb : PBox w g x) : (results fn tmps).run Try.prog w = .ok (prodA x) w := by
  have hu : Try.prog.underlying 42 = some (.struct (Try.prog.fieldsOf 42)) := by kernel_rfl
  have hz : (Try.prog.info? 42).map (·.size) = some 7 := by kernel_rfl
  exact results_cell_row h tmps w g 42 _ (0, 0) _ hp hb hu rfl hz
theorem oilM_q : prodQ MK.oilM := ⟨by decide, ⟨by decide, by decide⟩, ⟨by decide, by decide⟩, ⟨by decide, by decide⟩, ⟨by decide, by decide⟩, ⟨by decide, by decide⟩⟩
theorem q1_q : quoteQ MK.q1 := ⟨⟨by decide, by decide⟩, ⟨by decide, by decide⟩, ⟨by decide, by decide⟩, ⟨by decide, by decide⟩, ⟨by decide, by decide⟩, ⟨by decide, by decide⟩, ⟨by decide, by decide⟩⟩
theorem q2_q : quoteQ MK.q2 := ⟨⟨by decide, by decide⟩, ⟨by decide, by decide⟩, ⟨by decide, by decide⟩, ⟨by decide, by decide⟩, ⟨by decide, by decide⟩, ⟨by decide, by decide⟩, ⟨by decide, by decide⟩⟩
theorem q3_q : quoteQ MK.q3 := ⟨⟨by decide, by decide⟩, ⟨by decide, by decide⟩, ⟨by decide, by decide⟩, ⟨by decide, by decide⟩, ⟨by decide, by decide⟩, ⟨by decide, by decide⟩, ⟨by decide, by decide⟩⟩
theorem oil18_any (w : World) : Calls Try.prog 62 #[] w fun e w' => e = .returned (prodA MK.oilM) ∧ Below w.heap.size w w' := by
  have HB := Lib.hid (below_al (Below.refl w.heap.size w) (.cells #[.string ⟨#[111, 105, 108]⟩, .int .i64 0, .int .i64 1, .int .i64 5, .int .i64 0, .int .i64 1000, .bool false] 42))
  have HP : Hid (PBox (w.alloc (.cells #[.string ⟨#[111, 105, 108]⟩, .int .i64 0, .int .i64 1, .int .i64 5, .int .i64 0, .int .i64 1000, .bool false] 42)) w.heap.size MK.oilM) := Lib.hid (PBox.new w MK.oilM)
  go_enter Try.func62, Try.ntmps62
  go_wp2_with fail
  (try simp only [Exit.inBlock, Exit.then])
  exact bodyPost_ret (results_prod18 rfl _ _ _ _ rfl HP.out) rfl ⟨rfl, HB.out⟩
theorem mark_lit (W : World) : Ticks (W.alloc (.cells #[.int .i64 150, .int .i64 6, .int .i64 20, .int .i64 160, .int .i64 4, .int .i64 30] 72)) (some ⟨W.heap.size, 0, none⟩) [MK.tk1, MK.tk2] := by
  obtain ⟨A', cap, e, hr, _⟩ := OwnR.recs (OwnR.lit W W.heap.size 72 3 ([MK.tk1, MK.tk2].map tickV) (by simp [tickV]) (Nat.le_refl _) (by simp [maxLen]))
  injection e with e
  subst e
  refine ⟨hr, ?_⟩
  intro x hx
  simp only [List.mem_cons, List.not_mem_nil, or_false] at hx
  rcases hx with rfl | rfl <;> exact small_tick (by decide)
set_option maxHeartbeats 8000000 in
set_option maxRecDepth 100000 in
theorem goes18_any (w : World) : Calls Try.prog 25 #[] w fun e w' => e = .returned (.bool true) ∧ Below w.heap.size w w' := by
  have P1 := Lib.hid (fun ww (h : Ticks ww (some ⟨w.heap.size, 0, none⟩) MK.q1.ticks) => price18_any MK.oilM oilM_q (some ⟨w.heap.size, 0, none⟩) 2 MK.q1 q1_q ww h)
  rw [MK.q1_is.1, MK.q1_is.2.1, MK.q1_is.2.2] at P1
  have P2 := Lib.hid (fun ww (h : Ticks ww (some ⟨w.heap.size, 0, none⟩) MK.q2.ticks) => price18_any MK.oilM oilM_q (some ⟨w.heap.size, 0, none⟩) 2 MK.q2 q2_q ww h)
  rw [MK.q2_is.1, MK.q2_is.2.1, MK.q2_is.2.2] at P2
  have P3 := Lib.hid (fun ww (h : Ticks ww none MK.q3.ticks) => price18_any MK.oilM oilM_q none 0 MK.q3 q3_q ww h)
  rw [MK.q3_is.1, MK.q3_is.2.1, MK.q3_is.2.2] at P3
  have M := Lib.hid (fun ww => mid_any 20 25 5 ww)
  rw [MK.mid_is.1, MK.mid_is.2] at M
  have O := Lib.hid (fun ww => oil18_any ww)
  have HT0 : Hid (∀ ww, Below (w.alloc (.cells #[.int .i64 150, .int .i64 6, .int .i64 20, .int .i64 160, .int .i64 4, .int .i64 30] 72)).heap.size (w.alloc (.cells #[.int .i64 150, .int .i64 6, .int .i64 20, .int .i64 160, .int .i64 4, .int .i64 30] 72)) ww → Ticks ww (some ⟨w.heap.size, 0, none⟩) MK.q1.ticks) := Lib.hid (fun ww h => (mark_lit w).below h)
  have hs1 : (w.alloc (.cells #[.int .i64 150, .int .i64 6, .int .i64 20, .int .i64 160, .int .i64 4, .int .i64 30] 72)).heap.size = w.heap.size + 1 := by simp
  have HT2 : Hid (∀ ww, Ticks ww (some ⟨w.heap.size, 0, none⟩) MK.q1.ticks → Ticks ww (some ⟨w.heap.size, 0, none⟩) MK.q2.ticks) := Lib.hid (fun ww h => h.take_ 1)
  have HT3 : Hid (∀ ww, Ticks ww none MK.q3.ticks) := Lib.hid (fun ww => TR.nil ww none)
  have HBW := Lib.hid (below_al (Below.refl w.heap.size w) (.cells #[.int .i64 150, .int .i64 6, .int .i64 20, .int .i64 160, .int .i64 4, .int .i64 30] 72))
  have HB0 := Lib.hid (below_al (Below.refl (w.alloc (.cells #[.int .i64 150, .int .i64 6, .int .i64 20, .int .i64 160, .int .i64 4, .int .i64 30] 72)).heap.size (w.alloc (.cells #[.int .i64 150, .int .i64 6, .int .i64 20, .int .i64 160, .int .i64 4, .int .i64 30] 72))) (.cells (qC (some ⟨w.heap.size, 0, none⟩) 2 MK.q1) 44))
  have HQ0 := Lib.hid (CB.new1 w (.cells #[.int .i64 150, .int .i64 6, .int .i64 20, .int .i64 160, .int .i64 4, .int .i64 30] 72) 44 (qC (some ⟨w.heap.size, 0, none⟩) 2 MK.q1))
  have eq1 : qC (some ⟨w.heap.size, 0, none⟩) 2 MK.q1 = #[.slice (some ⟨w.heap.size, 0, none⟩) 2 2, .int .i64 100, .int .i64 200, .int .i64 10, .int .i64 0, .int .i64 0, .int .i64 50, .int .i64 0] := rfl
  have ea1 : qA (some ⟨w.heap.size, 0, none⟩) 2 MK.q1 = .agg #[.slice (some ⟨w.heap.size, 0, none⟩) 2 2, .int .i64 100, .int .i64 200, .int .i64 10, .int .i64 0, .int .i64 0, .int .i64 50, .int .i64 0] := rfl
  have ea2 : qA (some ⟨w.heap.size, 0, none⟩) 2 MK.q2 = .agg #[.slice (some ⟨w.heap.size, 0, none⟩) 1 2, .int .i64 100, .int .i64 200, .int .i64 10, .int .i64 25, .int .i64 0, .int .i64 50, .int .i64 0] := rfl
  have ea3 : qA none 0 MK.q3 = .agg #[.slice none 0 0, .int .i64 100, .int .i64 200, .int .i64 10, .int .i64 0, .int .i64 0, .int .i64 50, .int .i64 (-7)] := rfl
  rw [eq1] at HB0 HQ0
  rw [ea1] at P1
  rw [ea2] at P2
  rw [ea3] at P3
  generalize MK.oilM = o at *
  generalize MK.q1.ticks = t1 at *
  generalize MK.q2.ticks = t2 at *
  generalize MK.q3.ticks = t3 at *
  clear eq1 ea1 ea2 ea3
  go_enter Try.func25, Try.ntmps25
  go_wp2_with fail
  generalize (w.alloc (.cells #[.int .i64 150, .int .i64 6, .int .i64 20, .int .i64 160, .int .i64 4, .int .i64 30] 72)).alloc (.cells #[.slice (some ⟨w.heap.size, 0, none⟩) 2 2, .int .i64 100, .int .i64 200, .int .i64 10, .int .i64 0, .int .i64 0, .int .i64 50, .int .i64 0] 44) = w0 at *
  generalize w.alloc (.cells #[.int .i64 150, .int .i64 6, .int .i64 20, .int .i64 160, .int .i64 4, .int .i64 30] 72) = w1 at *
  have HSZ := Lib.hid hs1
  clear hs1
  have HS0 : Hid (∀ ww, Below w0.heap.size w0 ww → (ww.cell? ⟨w.heap.size + 1, 0, none⟩ = some (.slice (some ⟨w.heap.size, 0, none⟩) 2 2) ∧ ww.cell? ⟨w.heap.size + 1, 1, none⟩ = some (.int .i64 100) ∧ ww.cell? ⟨w.heap.size + 1, 2, none⟩ = some (.int .i64 200) ∧ ww.cell? ⟨w.heap.size + 1, 3, none⟩ = some (.int .i64 10) ∧
      ww.cell? ⟨w.heap.size + 1, 4, none⟩ = some (.int .i64 0) ∧ ww.cell? ⟨w.heap.size + 1, 5, none⟩ = some (.int .i64 0) ∧ ww.cell? ⟨w.heap.size + 1, 6, none⟩ = some (.int .i64 50) ∧ ww.cell? ⟨w.heap.size + 1, 7, none⟩ = some (.int .i64 0))) :=
    Lib.hid (fun ww hb => by have h := HQ0.out.below hb HQ0.out.lt; exact ⟨h.cell 0, h.cell 1, h.cell 2, h.cell 3, h.cell 4, h.cell 5, h.cell 6, h.cell 7⟩)
  have HBw : Hid (Below w0.heap.size w0 w0.drew) := Lib.hid (Below.refl _ _).drew
  go_region_held3 (fun ww => ww.cell? ⟨w.heap.size + 1, 0, none⟩ = some (.slice (some ⟨w.heap.size, 0, none⟩) 2 2) ∧ ww.cell? ⟨w.heap.size + 1, 1, none⟩ = some (.int .i64 100) ∧ ww.cell? ⟨w.heap.size + 1, 2, none⟩ = some (.int .i64 200) ∧ ww.cell? ⟨w.heap.size + 1, 3, none⟩ = some (.int .i64 10) ∧
      ww.cell? ⟨w.heap.size + 1, 4, none⟩ = some (.int .i64 0) ∧ ww.cell? ⟨w.heap.size + 1, 5, none⟩ = some (.int .i64 0) ∧ ww.cell? ⟨w.heap.size + 1, 6, none⟩ = some (.int .i64 50) ∧ ww.cell? ⟨w.heap.size + 1, 7, none⟩ = some (.int .i64 0))
    (exact HS0.out _ HBw.out)
    (first
      | (go_at_call 62; refine (O.out _).mono ?_; rintro e w6 ⟨rfl, b6⟩; replace HBw := Lib.hid (HBw.out.trans (b6.mono HBw.out.size)); clear b6)
      | (go_at_call 21; refine (P1.out _ (HT0.out _ (HB0.out.trans (HBw.out.mono HB0.out.size)))).mono ?_; rintro e w6 ⟨rfl, b6⟩; replace HBw := Lib.hid (HBw.out.trans (b6.mono HBw.out.size)); clear b6))
  all_goals (
    have HB1 := Lib.hid (HB0.out.trans (HBw.out.mono HB0.out.size))
    have HQ1 := Lib.hid (HQ0.out.below HBw.out HQ0.out.lt)
    have k0 := HQ1.out.cell 0
    have k4 := HQ1.out.cell 4
    have r0 := HQ1.out.frozen 0
    have r4 := HQ1.out.frozen 4
    simp only [List.getElem?_toArray, List.getElem?_cons_zero, List.getElem?_cons_succ] at k0 k4
    have HQ2 := Lib.hid ((HQ1.out.set_ 0 (.slice (some ⟨w.heap.size, 0, none⟩) 1 2)).set_ 4 (.int .i64 25))
    have HB2 := Lib.hid ((HB1.out.setCell (p := ⟨w.heap.size + 1, 0, none⟩) (by rw [HSZ.out]; exact Nat.le_refl _) (.slice (some ⟨w.heap.size, 0, none⟩) 1 2)).setCell (p := ⟨w.heap.size + 1, 4, none⟩) (by rw [HSZ.out]; exact Nat.le_refl _) (.int .i64 25))
    clear HS0 HBw HB0 HQ0 P1 HB1 HQ1
    go_wp2_with fail
    generalize (w6.setCell ⟨w.heap.size + 1, 0, none⟩ (.slice (some ⟨w.heap.size, 0, none⟩) 1 2)).setCell ⟨w.heap.size + 1, 4, none⟩ (.int .i64 25) = wz at *
    clear k0 k4 r0 r4
    have HS2 : Hid (∀ ww, Below wz.heap.size wz ww → (ww.cell? ⟨w.heap.size + 1, 0, none⟩ = some (.slice (some ⟨w.heap.size, 0, none⟩) 1 2) ∧ ww.cell? ⟨w.heap.size + 1, 1, none⟩ = some (.int .i64 100) ∧ ww.cell? ⟨w.heap.size + 1, 2, none⟩ = some (.int .i64 200) ∧ ww.cell? ⟨w.heap.size + 1, 3, none⟩ = some (.int .i64 10) ∧
        ww.cell? ⟨w.heap.size + 1, 4, none⟩ = some (.int .i64 25) ∧ ww.cell? ⟨w.heap.size + 1, 5, none⟩ = some (.int .i64 0) ∧ ww.cell? ⟨w.heap.size + 1, 6, none⟩ = some (.int .i64 50) ∧ ww.cell? ⟨w.heap.size + 1, 7, none⟩ = some (.int .i64 0))) :=
      Lib.hid (fun ww hb => by have h := HQ2.out.below hb HQ2.out.lt; exact ⟨h.cell 0, h.cell 1, h.cell 2, h.cell 3, h.cell 4, h.cell 5, h.cell 6, h.cell 7⟩)
    have HBw : Hid (Below wz.heap.size wz wz.drew) := Lib.hid (Below.refl _ _).drew
    go_region_held3 (fun ww => ww.cell? ⟨w.heap.size + 1, 0, none⟩ = some (.slice (some ⟨w.heap.size, 0, none⟩) 1 2) ∧ ww.cell? ⟨w.heap.size + 1, 1, none⟩ = some (.int .i64 100) ∧ ww.cell? ⟨w.heap.size + 1, 2, none⟩ = some (.int .i64 200) ∧ ww.cell? ⟨w.heap.size + 1, 3, none⟩ = some (.int .i64 10) ∧
        ww.cell? ⟨w.heap.size + 1, 4, none⟩ = some (.int .i64 25) ∧ ww.cell? ⟨w.heap.size + 1, 5, none⟩ = some (.int .i64 0) ∧ ww.cell? ⟨w.heap.size + 1, 6, none⟩ = some (.int .i64 50) ∧ ww.cell? ⟨w.heap.size + 1, 7, none⟩ = some (.int .i64 0))
      (exact HS2.out _ HBw.out)
      (first
        | (go_at_call 62; refine (O.out _).mono ?_; rintro e w6 ⟨rfl, b6⟩; replace HBw := Lib.hid (HBw.out.trans (b6.mono HBw.out.size)); clear b6)
        | (go_at_call 21; refine (P2.out _ (HT2.out _ (HT0.out _ (HB2.out.trans (HBw.out.mono HB2.out.size))))).mono ?_; rintro e w6 ⟨rfl, b6⟩; replace HBw := Lib.hid (HBw.out.trans (b6.mono HBw.out.size)); clear b6))
    all_goals (
      have HB3 := Lib.hid (HB2.out.trans (HBw.out.mono HB2.out.size))
      clear HS2 HBw HB2 HQ2 P2 HT2 HT0
      go_wp2_with fail
      refine (O.out _).mono ?_
      rintro e w7 ⟨rfl, b7⟩
      have HB4 := Lib.hid (HB3.out.trans (b7.mono HB3.out.size))
      clear b7 HB3
      go_wp2_with fail
      refine (P3.out _ (HT3.out _)).mono ?_
      rintro e w8 ⟨rfl, b8⟩
      have HB5 := Lib.hid (HB4.out.trans (b8.mono HB4.out.size))
      clear b8 HB4
      go_wp2_with fail
      refine (M.out _).mono ?_
      rintro e w9 ⟨rfl, b9⟩
      have HB6 := Lib.hid (HB5.out.trans (b9.mono HB5.out.size))
      have HBF := Lib.hid (HBW.out.trans (HB6.out.mono HBW.out.size))
      clear b9 HB5
      go_wp2_with fail
      go_ret
      exact ⟨rfl, HBF.out⟩))
end Go.Proofs.Ytaegapcccboinaa
