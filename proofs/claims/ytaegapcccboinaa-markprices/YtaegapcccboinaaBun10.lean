/- Put together: MrkH. -/
import Derived.Test.YtaegapcccboinaaBun9
/- Contracts of layer 17's and 18's reference: Window, Check. -/
namespace Go.Proofs.Ytaegapcccboinaa
open Go.RowKit Go.Recs
set_option linter.unusedVariables false
set_option linter.unusedSimpArgs false
set_option maxRecDepth 100000 in
set_option maxHeartbeats 4000000 in
theorem rwindow17_any (A : Option Addr) (l : List TP.Tick) (n cap : Nat) (a b : Int) (hn : n = l.length) (hl : l.length ≤ 1048576) (w : World) (hI : Ticks w A l) :
    Calls Try.prog 96 #[.slice A n cap, .int .i64 a, .int .i64 b] w fun e w' => ∃ v, e = .returned v ∧ OwnR w' w.heap.size 72 3 v ((TP.win l a b).map tickV) ∧ Below w.heap.size w w' := by
  subst hn
  have hlen := hI.len
  have HI := Lib.hid hI
  have KE : Hid (TP.winU l a b l.length = TP.win l a b) := Lib.hid (TP.winU_all l a b)
  generalize TP.win l a b = wl at *
  clear hI
  go_enter Try.func96, Try.ntmps96
  go_wp2_with fail
  go_loopw [7, 8] (fun v i wr => ∃ k : Nat, k ≤ l.length ∧ i = .int .i64 (k : Int) ∧ Hid (OwnR wr w.heap.size 72 3 v ((TP.winU l a b k).map tickV)) ∧ Hid (Below w.heap.size w wr)) (fun _ i _ => l.length - (intOf i).toNat)
  case atStart => exact ⟨0, by omega, rfl, Lib.hid (OwnR.nil _ _ _ _), Lib.hid (Below.refl _ _)⟩
  case round =>
    obtain ⟨k, hk, rfl, HO, HB⟩ := hrel
    by_cases hlt : k < l.length
    · obtain ⟨bb, off, t, rfl, hb, HV, ⟨q0, q1, q2⟩, d0, d1, d2⟩ := ticks_get (HI.out.below HB.out) hlt
      clear q0 q1 q2
      by_cases g1 : a ≤ t.time
      · by_cases g2 : t.time ≤ b
        · have HW : Hid (TP.winU l a b (k + 1) = TP.winU l a b k ++ [t]) := Lib.hid (by rw [TP.winU_in hlt (by rw [HV.out]; exact QM.within_true.2 ⟨g1, g2⟩), HV.out])
          have hwl : ((TP.winU l a b k).map tickV).length ≤ 1048576 := by have := TP.winU_len l a b k hk; rw [List.length_map]; omega
          clear HV
          generalize hrows : (TP.winU l a b k).map tickV = rows at *
          have HR := Lib.hid hrows
          clear hrows
          go_wp2_with (at_builtin; refine wpList_pushR _ [.int .i64 t.time, .int .i64 t.qty, .int .i64 t.price] (tick_one t) w.heap.size rows _ _ 22 72 3 24 _ Try.underlying22 info_tick rfl (by decide) rfl rfl rfl _ rfl rfl HO.out ?c1 ?c2 ?c3 ?_)
          case c1 => omega
          case c2 => simp only [maxLen]; omega
          case c3 => exact HB.out.size
          intro v2 w2 o2 b2 _ _
          have HO2 : Hid (OwnR w2 w.heap.size 72 3 v2 ((TP.winU l a b (k + 1)).map tickV)) := Lib.hid (by rw [HW.out, List.map_append, HR.out]; exact o2)
          have HB2 := Lib.hid (HB.out.trans b2)
          clear o2 b2 HO
          go_wp2_with fail
          go_roundw
          case rel => exact ⟨k + 1, by omega, by go_num, HO2, HB2⟩
          case measure => simp [intOf]; omega
        · have HW : Hid (TP.winU l a b (k + 1) = TP.winU l a b k) := Lib.hid (TP.winU_out hlt (by rw [HV.out]; exact QM.within_false.2 (by omega)))
          clear HV
          go_wp2_with fail
          go_roundw
          case rel => exact ⟨k + 1, by omega, by go_num, Lib.hid (by rw [HW.out]; exact HO.out), HB⟩
          case measure => simp [intOf]; omega
      · have HW : Hid (TP.winU l a b (k + 1) = TP.winU l a b k) := Lib.hid (TP.winU_out hlt (by rw [HV.out]; exact QM.within_false.2 (by omega)))
        clear HV
        go_wp2_with fail
        go_roundw
        case rel => exact ⟨k + 1, by omega, by go_num, Lib.hid (by rw [HW.out]; exact HO.out), HB⟩
        case measure => simp [intOf]; omega
    · obtain rfl : k = l.length := by omega
      rw [KE.out] at HO
      go_wp2_with fail
      go_ret
      exact ⟨_, rfl, HO.out, HB.out⟩
theorem timeB_eq (q : MK.Quote) : MK.timeB q = (QM.within q.from_ 0 86399 && (QM.within q.to_ 0 86399 && decide (q.from_ ≤ q.to_))) := by
  have key : ∀ b : Bool, (b = true ↔ MK.timeB q = true) → MK.timeB q = b := fun b h => by
    cases b <;> cases hh : MK.timeB q <;> simp_all
  apply key
  unfold MK.timeB
  simp only [Bool.and_eq_true, QM.within_true, decide_eq_true_eq]
  omega
set_option maxRecDepth 100000 in
set_option maxHeartbeats 16000000 in
theorem rmcheck18_any (p : QM.Prod) (hp : prodQ p) (A : Option Addr) (cap : Nat) (q : MK.Quote) (hq : quoteQ q) (w : World) (hI : Ticks w A q.ticks) :
    Calls Try.prog 24 #[prodA p, qA A cap q] w fun e w' => e = .returned (.int .i64 (MK.qE p q)) ∧ Below w.heap.size w w' := by
  have CP := Lib.hid (fun ww => rqcheck_any p hp ww)
  have CT := Lib.hid (fun ww h => rtcheck17_any A q.ticks q.ticks.length cap rfl ww h)
  have CW := Lib.hid (fun n a b ww => rwithin18_any n a b ww)
  have CI := Lib.hid (fun ww => rwithin18p_any q.move ww)
  have CF := Lib.hid (fun x ww => rqprice_any p x hp ww)
  have KP := Lib.hid (@MK.q_prod p q); have KT := Lib.hid (@MK.q_tape p q); have KM := Lib.hid (@MK.q_time p q); have KL := Lib.hid (@MK.q_least p q); have KF := Lib.hid (@MK.q_first p q); have KC := Lib.hid (@MK.q_last p q); have KO := Lib.hid (@MK.q_ok p q)
  have KG : Hid (TP.allE q.ticks = 0 → q.ticks.length ≤ 1048576) := Lib.hid (fun h => by have := (TP.good h).len; omega)
  have F1 := Lib.hid (fun k => @MK.first_stop p (MK.prices q) k)
  have F2 := Lib.hid (fun k => @MK.first_step p (MK.prices q) k)
  have F3 : Hid (MK.firstE p ((MK.prices q).take (MK.prices q).length) = MK.firstE p (MK.prices q)) := Lib.hid (by rw [List.take_length])
  have KR : Hid (∀ x ∈ MK.prices q, -9223372036854775808 ≤ x ∧ x ≤ 9223372036854775807) := Lib.hid (by
    intro x hx
    unfold MK.prices MK.side at hx
    simp only [List.mem_append, List.mem_map, List.mem_singleton] at hx
    rcases hx with (⟨t, ht, rfl⟩ | hx | hx) | rfl
    · exact (hI.2 t ht).2.2
    · split at hx
      · simp at hx
      · simp at hx; subst hx; exact hq.2.2.2.1
    · split at hx
      · simp at hx
      · simp at hx; subst hx; exact hq.2.2.2.2.1
    · exact hq.2.2.2.2.2.1)
  have KPR : Hid (MK.prices q = q.ticks.map (·.price) ++ (MK.side q.bid ++ MK.side q.ask) ++ [q.before]) := Lib.hid rfl
  have K1 := Lib.hid (fun k => @MK.takes q.ticks k)
  have K1E : Hid ((q.ticks.take q.ticks.length).map (·.price) = q.ticks.map (·.price)) := Lib.hid (by rw [List.take_length])
  have KML : Hid ((q.ticks.map (·.price)).length = q.ticks.length) := Lib.hid (by rw [List.length_map])
  have HB0 := Lib.hid (below_al (below_al (Below.refl w.heap.size w) (.cells #[.string p.name, .int .i64 p.cur, .int .i64 p.mult, .int .i64 p.tick, .int .i64 p.low, .int .i64 p.high, .bool p.phys] 42)) (.cells (qC A cap q) 44))
  have HP0 : Hid (PBox ((w.alloc (.cells #[.string p.name, .int .i64 p.cur, .int .i64 p.mult, .int .i64 p.tick, .int .i64 p.low, .int .i64 p.high, .bool p.phys] 42)).alloc (.cells (qC A cap q) 44)) w.heap.size p) := Lib.hid ((PBox.new w p).alloc _)
  have HQ0 := Lib.hid (CB.new1 w (.cells #[.string p.name, .int .i64 p.cur, .int .i64 p.mult, .int .i64 p.tick, .int .i64 p.low, .int .i64 p.high, .bool p.phys] 42) 44 (qC A cap q))
  have HI := Lib.hid (hI.below HB0.out)
  have hlen := hI.len
  obtain ⟨c0, c1, c2, c3, c4, c5, c6, c7⟩ := quote_cells HQ0.out
  obtain ⟨d0, d1, d2, d3, d4, d5, d6⟩ := HP0.out.cells
  have HM1 := Lib.hid (timeB_eq q)
  have HM2 : Hid (MK.lastB q = (((q.bid != 0) && (q.ask != 0) && decide (q.ask < q.bid)) || !MK.isP q.move)) := Lib.hid rfl
  clear hI hp hq
  generalize QM.checkE p = ep at *
  generalize TP.allE q.ticks = et at *
  generalize MK.timeB q = bt at *
  generalize MK.lastB q = bl at *
  generalize MK.qE p q = x at *
  generalize MK.prices q = ps at *
  go_enter Try.func24, Try.ntmps24
  go_wp2_with fail
  generalize (w.alloc (.cells #[.string p.name, .int .i64 p.cur, .int .i64 p.mult, .int .i64 p.tick, .int .i64 p.low, .int .i64 p.high, .bool p.phys] 42)).alloc (.cells #[.slice A q.ticks.length cap, .int .i64 q.from_, .int .i64 q.to_, .int .i64 q.least, .int .i64 q.bid, .int .i64 q.ask, .int .i64 q.before, .int .i64 q.move] 44) = w0 at *
  refine (CP.out _).mono ?_
  rintro e w1 ⟨rfl, b1⟩
  have HB1 := Lib.hid (HB0.out.trans (b1.mono HB0.out.size))
  have HP1 := Lib.hid (HP0.out.below b1 HP0.out.lt)
  have HQ1 := Lib.hid (HQ0.out.below b1 HQ0.out.lt)
  have HI1 := Lib.hid (HI.out.below b1)
  clear b1 c0 c1 c2 c3 c4 c5 c6 c7 d0 d1 d2 d3 d4 d5 d6 HP0 HQ0 HI HB0
  by_cases hep : ep = 0
  · subst hep
    obtain ⟨c0, c1, c2, c3, c4, c5, c6, c7⟩ := quote_cells HQ1.out
    go_wp2_with fail
    refine (CT.out _ HI1.out).mono ?_
    rintro e w2 ⟨rfl, nd, rfl⟩
    have HB2 := Lib.hid (below_drewN HB1.out nd)
    have HP2 : Hid (PBox (w1.drewN nd) w.heap.size p) := Lib.hid HP1.out
    have HQ2 := Lib.hid (HQ1.out.drewN nd)
    have HI2 := Lib.hid (HI1.out.drewN nd)
    generalize w1.drewN nd = w2 at *
    clear c0 c1 c2 c3 c4 c5 c6 c7 HP1 HQ1 HI1 HB1
    by_cases het : et = 0
    · subst het
      have hln := KG.out rfl
      obtain ⟨c0, c1, c2, c3, c4, c5, c6, c7⟩ := quote_cells HQ2.out
      go_wp2_with fail
      refine (CW.out _ _ _ _).mono ?_
      rintro e w3 ⟨rfl, rfl⟩
      cases g1 : QM.within q.from_ 0 86399
      · have HX := Lib.hid (KM.out (by trivial) (by trivial) (by rw [HM1.out, g1]; rfl))
        clear g1
        go_wp2_with fail
        go_ret
        exact ⟨by rw [HX.out] <;> rfl, HB2.out⟩
      go_wp2_with fail
      refine (CW.out _ _ _ _).mono ?_
      rintro e w3 ⟨rfl, rfl⟩
      cases g2 : QM.within q.to_ 0 86399
      · have HX := Lib.hid (KM.out (by trivial) (by trivial) (by rw [HM1.out, g1, g2]; rfl))
        clear g1 g2
        go_wp2_with fail
        go_ret
        exact ⟨by rw [HX.out] <;> rfl, HB2.out⟩
      by_cases g4 : q.from_ ≤ q.to_
      · have HT : Hid (bt = true) := Lib.hid (by rw [HM1.out, g1, g2, decide_eq_true g4]; rfl)
        have g5 : ¬ q.to_ < q.from_ := by omega
        clear g1 g2 g4
        go_wp2_with fail
        refine (CW.out _ _ _ _).mono ?_
        rintro e w3 ⟨rfl, rfl⟩
        cases g3 : QM.within q.least 1 1048576
        · have HX := Lib.hid (KL.out (by trivial) (by trivial) HT.out g3)
          clear g3
          go_wp2_with fail
          go_ret
          exact ⟨by rw [HX.out] <;> rfl, HB2.out⟩
        have HL := Lib.hid g3
        clear g3
        go_wp2_with fail
        go_loopw [7, 8] (fun v i wr => ∃ k : Nat, k ≤ q.ticks.length ∧ i = .int .i64 (k : Int) ∧ Hid (Own wr w2.heap.size v ((q.ticks.take k).map (·.price))) ∧ Hid (Below w2.heap.size w2 wr)) (fun _ i _ => q.ticks.length - (intOf i).toNat)
        case atStart => exact ⟨0, by omega, rfl, Lib.hid (Own.nil _ _), Lib.hid (Below.refl _ _)⟩
        case round =>
          clear c0 c1 c2 c3 c4 c5 c6 c7
          obtain ⟨k, hk, rfl, HO, HB⟩ := hrel
          obtain ⟨c0, c1, c2, c3, c4, c5, c6, c7⟩ := quote_cells (HQ2.out.below HB.out HQ2.out.lt)
          by_cases hlt : k < q.ticks.length
          · obtain ⟨b, off, t, rfl, hb, HV, ⟨q0, q1, q2⟩, d0, d1, d2⟩ := ticks_get (HI2.out.below HB.out) hlt
            have HW : Hid ((q.ticks.take (k + 1)).map (·.price) = (q.ticks.take k).map (·.price) ++ [t.price]) := Lib.hid (by rw [K1.out k hlt, HV.out])
            have hwl : ((q.ticks.take k).map (·.price)).length < 1099511627776 := by rw [List.length_map, List.length_take]; omega
            clear HV q0 q1 q2
            generalize (q.ticks.take k).map (·.price) = zs at *
            go_wp2_with (at_builtin; refine wpList_push _ t.price w2.heap.size zs _ _ rfl rfl _ rfl rfl HO.out ?c1 HB.out.size ?_)
            case c1 => exact hwl
            intro v4 w4 o4 b4 _ _
            have HO4 : Hid (Own w4 w2.heap.size v4 ((q.ticks.take (k + 1)).map (·.price))) := Lib.hid (by rw [HW.out]; exact o4)
            have HB4 := Lib.hid (HB.out.trans b4)
            clear o4 b4 HO HB d0 d1 d2 hwl c0 c1 c2 c3 c4 c5 c6 c7
            go_wp2_with fail
            go_roundw
            case rel => exact ⟨k + 1, by omega, by go_num, HO4, HB4⟩
            case measure => simp [intOf]; omega
          · obtain rfl : k = q.ticks.length := by omega
            rw [K1E.out] at HO
            clear K1 K1E
            generalize q.ticks.map (·.price) = base at *
            have hbl : base.length ≤ 1048576 := by rw [KML.out]; exact hln
            clear KML
            generalize wr = w3 at *
            cases e1 : (q.bid != 0)
            · have S1 : MK.side q.bid = [] := by unfold MK.side; rw [if_pos (by simpa using e1)]
              cases e2 : (q.ask != 0)
              · have S2 : MK.side q.ask = [] := by unfold MK.side; rw [if_pos (by simpa using e2)]
                have HPZ : Hid (base ++ [q.before] = ps) := Lib.hid (by rw [KPR.out, S1, S2]; simp)
                clear S1 S2 KPR
                have hl1 : (base).length < 1099511627776 := by first | omega | (simp; omega)
                go_wp2_with (at_builtin; refine wpList_push _ q.before w2.heap.size (base) _ _ rfl rfl _ rfl rfl HO.out ?c1 HB.out.size ?_)
                case c1 => simpa using hl1
                intro v1 u1 o1 b1 _ _
                have HO1 : Hid (Own u1 w2.heap.size v1 (base ++ [q.before])) := Lib.hid (by simpa using o1)
                have HB1x := Lib.hid (HB.out.trans b1)
                clear o1 b1 c0 c1 c2 c3 c4 c5 c6 c7
                obtain ⟨c0, c1, c2, c3, c4, c5, c6, c7⟩ := quote_cells (HQ2.out.below HB1x.out HQ2.out.lt)
                have hNl : ps.length ≤ 1048600 := by rw [← HPZ.out]; simp; omega
                have o5 := HO1.out
                rw [HPZ.out] at o5
                obtain ⟨A5, k5, hv5, hI5⟩ := Own.ints o5 KR.out
                subst hv5
                have HI5 := Lib.hid hI5
                have HB5 := HB1x
                clear o5 hI5 HO1 HPZ KR HO HB
                generalize u1 = w5 at *
                go_wp2_with fail
                go_loopw [9, 10] (fun i _ wr => ∃ k : Nat, k ≤ ps.length ∧ i = .int .i64 (k : Int) ∧ Hid (MK.firstE p (ps.take k) = 0) ∧ Hid (Below w5.heap.size w5 wr)) (fun i _ _ => ps.length - (intOf i).toNat)
                case atStart => exact ⟨0, by omega, rfl, Lib.hid rfl, Lib.hid (Below.refl _ _)⟩
                case round =>
                  clear c0 c1 c2 c3 c4 c5 c6 c7
                  obtain ⟨k, hk, rfl, HE, HW⟩ := hrel
                  have HBW := Lib.hid (HB5.out.trans (HW.out.mono HB5.out.size))
                  by_cases hlt : k < ps.length
                  · obtain ⟨b, off, y, rfl, hb, d0, HV, x1, x2⟩ := (HI5.out.below HW.out).get hlt
                    have C := Lib.hid (fun ww => CF.out y ww)
                    have HF := Lib.hid (F1.out k hlt HE.out)
                    have HS := Lib.hid (F2.out k hlt HE.out)
                    have HV2 : Hid (MK.xAt ps k = y) := Lib.hid HV.out
                    rw [HV2.out] at HF HS
                    generalize QM.priceE p y = pe at *
                    have HPr := HP2.out.below HBW.out HP2.out.lt
                    have HSX : Hid (∀ ww, Below wr.heap.size wr ww → (ww.cell? ⟨b, off + k, none⟩ = some (.int .i64 y)) ∧ (ww.cell? ⟨w.heap.size, 0, none⟩ = some (.string p.name) ∧ ww.cell? ⟨w.heap.size, 1, none⟩ = some (.int .i64 p.cur) ∧ ww.cell? ⟨w.heap.size, 2, none⟩ = some (.int .i64 p.mult) ∧ ww.cell? ⟨w.heap.size, 3, none⟩ = some (.int .i64 p.tick) ∧ ww.cell? ⟨w.heap.size, 4, none⟩ = some (.int .i64 p.low) ∧
                      ww.cell? ⟨w.heap.size, 5, none⟩ = some (.int .i64 p.high) ∧ ww.cell? ⟨w.heap.size, 6, none⟩ = some (.bool p.phys))) := Lib.hid (fun ww h => ⟨(h.cell (p := ⟨b, off + k, none⟩) hb).trans d0, (HPr.below h HPr.lt).cells⟩)
                    have HBw : Hid (Below wr.heap.size wr wr.drew) := Lib.hid (Below.refl _ _).drew
                    clear HV HV2 HE HPr d0
                    go_wp2_with fail
                    go_region_held3 (fun ww => (ww.cell? ⟨b, off + k, none⟩ = some (.int .i64 y)) ∧ (ww.cell? ⟨w.heap.size, 0, none⟩ = some (.string p.name) ∧ ww.cell? ⟨w.heap.size, 1, none⟩ = some (.int .i64 p.cur) ∧ ww.cell? ⟨w.heap.size, 2, none⟩ = some (.int .i64 p.mult) ∧ ww.cell? ⟨w.heap.size, 3, none⟩ = some (.int .i64 p.tick) ∧ ww.cell? ⟨w.heap.size, 4, none⟩ = some (.int .i64 p.low) ∧
                      ww.cell? ⟨w.heap.size, 5, none⟩ = some (.int .i64 p.high) ∧ ww.cell? ⟨w.heap.size, 6, none⟩ = some (.bool p.phys)))
                      (exact HSX.out _ HBw.out)
                      ((go_at_call 61; refine (C.out _).mono ?_; rintro e w6 ⟨rfl, b6⟩; replace HBw := Lib.hid (HBw.out.trans (b6.mono HBw.out.size)); clear b6))
                    all_goals (
                      have HW6 := Lib.hid (HW.out.trans (HBw.out.mono HW.out.size))
                      clear HSX HBw HW
                      by_cases hpe : pe = 0
                      · have HZ := Lib.hid (HS.out hpe)
                        subst hpe
                        go_wp2_with fail
                        go_roundw
                        case rel => exact ⟨k + 1, by omega, by go_num, HZ, HW6⟩
                        case measure => simp [intOf]; omega
                      · have HX := Lib.hid (KF.out (by trivial) (by trivial) HT.out HL.out (by rw [HF.out hpe]; exact hpe))
                        have HX2 := Lib.hid (HF.out hpe)
                        have hne : (pe != 0) = true := by simpa using hpe
                        have HBF := Lib.hid (HB2.out.trans ((HB5.out.trans (HW6.out.mono HB5.out.size)).mono HB2.out.size))
                        clear hpe
                        go_wp2_with fail
                        go_ret
                        exact ⟨by rw [HX.out, HX2.out] <;> rfl, HBF.out⟩)
                  · obtain rfl : k = ps.length := by omega
                    have HZ : Hid (MK.firstE p ps = 0) := Lib.hid (by rw [← F3.out]; exact HE.out)
                    have HBF := Lib.hid (HB2.out.trans (HBW.out.mono HB2.out.size))
                    obtain ⟨c0, c1, c2, c3, c4, c5, c6, c7⟩ := quote_cells (HQ2.out.below HBW.out HQ2.out.lt)
                    have KC2 := Lib.hid (KC.out (by trivial) (by trivial) HT.out HL.out HZ.out)
                    have KO2 := Lib.hid (KO.out (by trivial) (by trivial) HT.out HL.out HZ.out)
                    go_wp2_with fail
                    refine (CI.out _).mono ?_
                    rintro e w6 ⟨rfl, rfl⟩
                    cases hi : MK.isP q.move
                    · have HX := Lib.hid (KC2.out (by rw [HM2.out, e1, e2, hi]; simp))
                      clear hi
                      go_wp2_with fail
                      go_ret
                      exact ⟨by rw [HX.out] <;> rfl, HBF.out⟩
                    · have HX := Lib.hid (KO2.out (by rw [HM2.out, e1, e2, hi]; simp))
                      clear hi
                      go_wp2_with fail
                      go_ret
                      exact ⟨by rw [HX.out] <;> rfl, HBF.out⟩
              · have S2 : MK.side q.ask = [q.ask] := by unfold MK.side; rw [if_neg (by simpa using e2)]
                have HPZ : Hid (base ++ [q.ask] ++ [q.before] = ps) := Lib.hid (by rw [KPR.out, S1, S2]; simp)
                clear S1 S2 KPR
                have hl1 : (base).length < 1099511627776 := by first | omega | (simp; omega)
                go_wp2_with (at_builtin; refine wpList_push _ q.ask w2.heap.size (base) _ _ rfl rfl _ rfl rfl HO.out ?c1 HB.out.size ?_)
                case c1 => simpa using hl1
                intro v1 u1 o1 b1 _ _
                have HO1 : Hid (Own u1 w2.heap.size v1 (base ++ [q.ask])) := Lib.hid (by simpa using o1)
                have HB1x := Lib.hid (HB.out.trans b1)
                clear o1 b1 c0 c1 c2 c3 c4 c5 c6 c7
                obtain ⟨c0, c1, c2, c3, c4, c5, c6, c7⟩ := quote_cells (HQ2.out.below HB1x.out HQ2.out.lt)
                have hl2 : ((base ++ [q.ask])).length < 1099511627776 := by first | omega | (simp; omega)
                go_wp2_with (at_builtin; refine wpList_push _ q.before w2.heap.size ((base ++ [q.ask])) _ _ rfl rfl _ rfl rfl HO1.out ?c1 HB1x.out.size ?_)
                case c1 => simpa using hl2
                intro v2 u2 o2 b2 _ _
                have HO2 : Hid (Own u2 w2.heap.size v2 ((base ++ [q.ask]) ++ [q.before])) := Lib.hid (by simpa using o2)
                have HB2x := Lib.hid (HB1x.out.trans b2)
                clear o2 b2 c0 c1 c2 c3 c4 c5 c6 c7
                obtain ⟨c0, c1, c2, c3, c4, c5, c6, c7⟩ := quote_cells (HQ2.out.below HB2x.out HQ2.out.lt)
                have hNl : ps.length ≤ 1048600 := by rw [← HPZ.out]; simp; omega
                have o5 := HO2.out
                rw [HPZ.out] at o5
                obtain ⟨A5, k5, hv5, hI5⟩ := Own.ints o5 KR.out
                subst hv5
                have HI5 := Lib.hid hI5
                have HB5 := HB2x
                clear o5 hI5 HO2 HPZ KR HO HB
                generalize u2 = w5 at *
                go_wp2_with fail
                go_loopw [9, 10] (fun i _ wr => ∃ k : Nat, k ≤ ps.length ∧ i = .int .i64 (k : Int) ∧ Hid (MK.firstE p (ps.take k) = 0) ∧ Hid (Below w5.heap.size w5 wr)) (fun i _ _ => ps.length - (intOf i).toNat)
                case atStart => exact ⟨0, by omega, rfl, Lib.hid rfl, Lib.hid (Below.refl _ _)⟩
                case round =>
                  clear c0 c1 c2 c3 c4 c5 c6 c7
                  obtain ⟨k, hk, rfl, HE, HW⟩ := hrel
                  have HBW := Lib.hid (HB5.out.trans (HW.out.mono HB5.out.size))
                  by_cases hlt : k < ps.length
                  · obtain ⟨b, off, y, rfl, hb, d0, HV, x1, x2⟩ := (HI5.out.below HW.out).get hlt
                    have C := Lib.hid (fun ww => CF.out y ww)
                    have HF := Lib.hid (F1.out k hlt HE.out)
                    have HS := Lib.hid (F2.out k hlt HE.out)
                    have HV2 : Hid (MK.xAt ps k = y) := Lib.hid HV.out
                    rw [HV2.out] at HF HS
                    generalize QM.priceE p y = pe at *
                    have HPr := HP2.out.below HBW.out HP2.out.lt
                    have HSX : Hid (∀ ww, Below wr.heap.size wr ww → (ww.cell? ⟨b, off + k, none⟩ = some (.int .i64 y)) ∧ (ww.cell? ⟨w.heap.size, 0, none⟩ = some (.string p.name) ∧ ww.cell? ⟨w.heap.size, 1, none⟩ = some (.int .i64 p.cur) ∧ ww.cell? ⟨w.heap.size, 2, none⟩ = some (.int .i64 p.mult) ∧ ww.cell? ⟨w.heap.size, 3, none⟩ = some (.int .i64 p.tick) ∧ ww.cell? ⟨w.heap.size, 4, none⟩ = some (.int .i64 p.low) ∧
                      ww.cell? ⟨w.heap.size, 5, none⟩ = some (.int .i64 p.high) ∧ ww.cell? ⟨w.heap.size, 6, none⟩ = some (.bool p.phys))) := Lib.hid (fun ww h => ⟨(h.cell (p := ⟨b, off + k, none⟩) hb).trans d0, (HPr.below h HPr.lt).cells⟩)
                    have HBw : Hid (Below wr.heap.size wr wr.drew) := Lib.hid (Below.refl _ _).drew
                    clear HV HV2 HE HPr d0
                    go_wp2_with fail
                    go_region_held3 (fun ww => (ww.cell? ⟨b, off + k, none⟩ = some (.int .i64 y)) ∧ (ww.cell? ⟨w.heap.size, 0, none⟩ = some (.string p.name) ∧ ww.cell? ⟨w.heap.size, 1, none⟩ = some (.int .i64 p.cur) ∧ ww.cell? ⟨w.heap.size, 2, none⟩ = some (.int .i64 p.mult) ∧ ww.cell? ⟨w.heap.size, 3, none⟩ = some (.int .i64 p.tick) ∧ ww.cell? ⟨w.heap.size, 4, none⟩ = some (.int .i64 p.low) ∧
                      ww.cell? ⟨w.heap.size, 5, none⟩ = some (.int .i64 p.high) ∧ ww.cell? ⟨w.heap.size, 6, none⟩ = some (.bool p.phys)))
                      (exact HSX.out _ HBw.out)
                      ((go_at_call 61; refine (C.out _).mono ?_; rintro e w6 ⟨rfl, b6⟩; replace HBw := Lib.hid (HBw.out.trans (b6.mono HBw.out.size)); clear b6))
                    all_goals (
                      have HW6 := Lib.hid (HW.out.trans (HBw.out.mono HW.out.size))
                      clear HSX HBw HW
                      by_cases hpe : pe = 0
                      · have HZ := Lib.hid (HS.out hpe)
                        subst hpe
                        go_wp2_with fail
                        go_roundw
                        case rel => exact ⟨k + 1, by omega, by go_num, HZ, HW6⟩
                        case measure => simp [intOf]; omega
                      · have HX := Lib.hid (KF.out (by trivial) (by trivial) HT.out HL.out (by rw [HF.out hpe]; exact hpe))
                        have HX2 := Lib.hid (HF.out hpe)
                        have hne : (pe != 0) = true := by simpa using hpe
                        have HBF := Lib.hid (HB2.out.trans ((HB5.out.trans (HW6.out.mono HB5.out.size)).mono HB2.out.size))
                        clear hpe
                        go_wp2_with fail
                        go_ret
                        exact ⟨by rw [HX.out, HX2.out] <;> rfl, HBF.out⟩)
                  · obtain rfl : k = ps.length := by omega
                    have HZ : Hid (MK.firstE p ps = 0) := Lib.hid (by rw [← F3.out]; exact HE.out)
                    have HBF := Lib.hid (HB2.out.trans (HBW.out.mono HB2.out.size))
                    obtain ⟨c0, c1, c2, c3, c4, c5, c6, c7⟩ := quote_cells (HQ2.out.below HBW.out HQ2.out.lt)
                    have KC2 := Lib.hid (KC.out (by trivial) (by trivial) HT.out HL.out HZ.out)
                    have KO2 := Lib.hid (KO.out (by trivial) (by trivial) HT.out HL.out HZ.out)
                    go_wp2_with fail
                    refine (CI.out _).mono ?_
                    rintro e w6 ⟨rfl, rfl⟩
                    cases hi : MK.isP q.move
                    · have HX := Lib.hid (KC2.out (by rw [HM2.out, e1, e2, hi]; simp))
                      clear hi
                      go_wp2_with fail
                      go_ret
                      exact ⟨by rw [HX.out] <;> rfl, HBF.out⟩
                    · have HX := Lib.hid (KO2.out (by rw [HM2.out, e1, e2, hi]; simp))
                      clear hi
                      go_wp2_with fail
                      go_ret
                      exact ⟨by rw [HX.out] <;> rfl, HBF.out⟩
            · have S1 : MK.side q.bid = [q.bid] := by unfold MK.side; rw [if_neg (by simpa using e1)]
              cases e2 : (q.ask != 0)
              · have S2 : MK.side q.ask = [] := by unfold MK.side; rw [if_pos (by simpa using e2)]
                have HPZ : Hid (base ++ [q.bid] ++ [q.before] = ps) := Lib.hid (by rw [KPR.out, S1, S2]; simp)
                clear S1 S2 KPR
                have hl1 : (base).length < 1099511627776 := by first | omega | (simp; omega)
                go_wp2_with (at_builtin; refine wpList_push _ q.bid w2.heap.size (base) _ _ rfl rfl _ rfl rfl HO.out ?c1 HB.out.size ?_)
                case c1 => simpa using hl1
                intro v1 u1 o1 b1 _ _
                have HO1 : Hid (Own u1 w2.heap.size v1 (base ++ [q.bid])) := Lib.hid (by simpa using o1)
                have HB1x := Lib.hid (HB.out.trans b1)
                clear o1 b1 c0 c1 c2 c3 c4 c5 c6 c7
                obtain ⟨c0, c1, c2, c3, c4, c5, c6, c7⟩ := quote_cells (HQ2.out.below HB1x.out HQ2.out.lt)
                have hl2 : ((base ++ [q.bid])).length < 1099511627776 := by first | omega | (simp; omega)
                go_wp2_with (at_builtin; refine wpList_push _ q.before w2.heap.size ((base ++ [q.bid])) _ _ rfl rfl _ rfl rfl HO1.out ?c1 HB1x.out.size ?_)
                case c1 => simpa using hl2
                intro v2 u2 o2 b2 _ _
                have HO2 : Hid (Own u2 w2.heap.size v2 ((base ++ [q.bid]) ++ [q.before])) := Lib.hid (by simpa using o2)
                have HB2x := Lib.hid (HB1x.out.trans b2)
                clear o2 b2 c0 c1 c2 c3 c4 c5 c6 c7
                obtain ⟨c0, c1, c2, c3, c4, c5, c6, c7⟩ := quote_cells (HQ2.out.below HB2x.out HQ2.out.lt)
                have hNl : ps.length ≤ 1048600 := by rw [← HPZ.out]; simp; omega
                have o5 := HO2.out
                rw [HPZ.out] at o5
                obtain ⟨A5, k5, hv5, hI5⟩ := Own.ints o5 KR.out
                subst hv5
                have HI5 := Lib.hid hI5
                have HB5 := HB2x
                clear o5 hI5 HO2 HPZ KR HO HB
                generalize u2 = w5 at *
                go_wp2_with fail
                go_loopw [9, 10] (fun i _ wr => ∃ k : Nat, k ≤ ps.length ∧ i = .int .i64 (k : Int) ∧ Hid (MK.firstE p (ps.take k) = 0) ∧ Hid (Below w5.heap.size w5 wr)) (fun i _ _ => ps.length - (intOf i).toNat)
                case atStart => exact ⟨0, by omega, rfl, Lib.hid rfl, Lib.hid (Below.refl _ _)⟩
                case round =>
                  clear c0 c1 c2 c3 c4 c5 c6 c7
                  obtain ⟨k, hk, rfl, HE, HW⟩ := hrel
                  have HBW := Lib.hid (HB5.out.trans (HW.out.mono HB5.out.size))
                  by_cases hlt : k < ps.length
                  · obtain ⟨b, off, y, rfl, hb, d0, HV, x1, x2⟩ := (HI5.out.below HW.out).get hlt
                    have C := Lib.hid (fun ww => CF.out y ww)
                    have HF := Lib.hid (F1.out k hlt HE.out)
                    have HS := Lib.hid (F2.out k hlt HE.out)
                    have HV2 : Hid (MK.xAt ps k = y) := Lib.hid HV.out
                    rw [HV2.out] at HF HS
                    generalize QM.priceE p y = pe at *
                    have HPr := HP2.out.below HBW.out HP2.out.lt
                    have HSX : Hid (∀ ww, Below wr.heap.size wr ww → (ww.cell? ⟨b, off + k, none⟩ = some (.int .i64 y)) ∧ (ww.cell? ⟨w.heap.size, 0, none⟩ = some (.string p.name) ∧ ww.cell? ⟨w.heap.size, 1, none⟩ = some (.int .i64 p.cur) ∧ ww.cell? ⟨w.heap.size, 2, none⟩ = some (.int .i64 p.mult) ∧ ww.cell? ⟨w.heap.size, 3, none⟩ = some (.int .i64 p.tick) ∧ ww.cell? ⟨w.heap.size, 4, none⟩ = some (.int .i64 p.low) ∧
                      ww.cell? ⟨w.heap.size, 5, none⟩ = some (.int .i64 p.high) ∧ ww.cell? ⟨w.heap.size, 6, none⟩ = some (.bool p.phys))) := Lib.hid (fun ww h => ⟨(h.cell (p := ⟨b, off + k, none⟩) hb).trans d0, (HPr.below h HPr.lt).cells⟩)
                    have HBw : Hid (Below wr.heap.size wr wr.drew) := Lib.hid (Below.refl _ _).drew
                    clear HV HV2 HE HPr d0
                    go_wp2_with fail
                    go_region_held3 (fun ww => (ww.cell? ⟨b, off + k, none⟩ = some (.int .i64 y)) ∧ (ww.cell? ⟨w.heap.size, 0, none⟩ = some (.string p.name) ∧ ww.cell? ⟨w.heap.size, 1, none⟩ = some (.int .i64 p.cur) ∧ ww.cell? ⟨w.heap.size, 2, none⟩ = some (.int .i64 p.mult) ∧ ww.cell? ⟨w.heap.size, 3, none⟩ = some (.int .i64 p.tick) ∧ ww.cell? ⟨w.heap.size, 4, none⟩ = some (.int .i64 p.low) ∧
                      ww.cell? ⟨w.heap.size, 5, none⟩ = some (.int .i64 p.high) ∧ ww.cell? ⟨w.heap.size, 6, none⟩ = some (.bool p.phys)))
                      (exact HSX.out _ HBw.out)
                      ((go_at_call 61; refine (C.out _).mono ?_; rintro e w6 ⟨rfl, b6⟩; replace HBw := Lib.hid (HBw.out.trans (b6.mono HBw.out.size)); clear b6))
                    all_goals (
                      have HW6 := Lib.hid (HW.out.trans (HBw.out.mono HW.out.size))
                      clear HSX HBw HW
                      by_cases hpe : pe = 0
                      · have HZ := Lib.hid (HS.out hpe)
                        subst hpe
                        go_wp2_with fail
                        go_roundw
                        case rel => exact ⟨k + 1, by omega, by go_num, HZ, HW6⟩
                        case measure => simp [intOf]; omega
                      · have HX := Lib.hid (KF.out (by trivial) (by trivial) HT.out HL.out (by rw [HF.out hpe]; exact hpe))
                        have HX2 := Lib.hid (HF.out hpe)
                        have hne : (pe != 0) = true := by simpa using hpe
                        have HBF := Lib.hid (HB2.out.trans ((HB5.out.trans (HW6.out.mono HB5.out.size)).mono HB2.out.size))
                        clear hpe
                        go_wp2_with fail
                        go_ret
                        exact ⟨by rw [HX.out, HX2.out] <;> rfl, HBF.out⟩)
                  · obtain rfl : k = ps.length := by omega
                    have HZ : Hid (MK.firstE p ps = 0) := Lib.hid (by rw [← F3.out]; exact HE.out)
                    have HBF := Lib.hid (HB2.out.trans (HBW.out.mono HB2.out.size))
                    obtain ⟨c0, c1, c2, c3, c4, c5, c6, c7⟩ := quote_cells (HQ2.out.below HBW.out HQ2.out.lt)
                    have KC2 := Lib.hid (KC.out (by trivial) (by trivial) HT.out HL.out HZ.out)
                    have KO2 := Lib.hid (KO.out (by trivial) (by trivial) HT.out HL.out HZ.out)
                    go_wp2_with fail
                    refine (CI.out _).mono ?_
                    rintro e w6 ⟨rfl, rfl⟩
                    cases hi : MK.isP q.move
                    · have HX := Lib.hid (KC2.out (by rw [HM2.out, e1, e2, hi]; simp))
                      clear hi
                      go_wp2_with fail
                      go_ret
                      exact ⟨by rw [HX.out] <;> rfl, HBF.out⟩
                    · have HX := Lib.hid (KO2.out (by rw [HM2.out, e1, e2, hi]; simp))
                      clear hi
                      go_wp2_with fail
                      go_ret
                      exact ⟨by rw [HX.out] <;> rfl, HBF.out⟩
              · have S2 : MK.side q.ask = [q.ask] := by unfold MK.side; rw [if_neg (by simpa using e2)]
                have HPZ : Hid (base ++ [q.bid] ++ [q.ask] ++ [q.before] = ps) := Lib.hid (by rw [KPR.out, S1, S2]; simp)
                clear S1 S2 KPR
                have hl1 : (base).length < 1099511627776 := by first | omega | (simp; omega)
                go_wp2_with (at_builtin; refine wpList_push _ q.bid w2.heap.size (base) _ _ rfl rfl _ rfl rfl HO.out ?c1 HB.out.size ?_)
                case c1 => simpa using hl1
                intro v1 u1 o1 b1 _ _
                have HO1 : Hid (Own u1 w2.heap.size v1 (base ++ [q.bid])) := Lib.hid (by simpa using o1)
                have HB1x := Lib.hid (HB.out.trans b1)
                clear o1 b1 c0 c1 c2 c3 c4 c5 c6 c7
                obtain ⟨c0, c1, c2, c3, c4, c5, c6, c7⟩ := quote_cells (HQ2.out.below HB1x.out HQ2.out.lt)
                have hl2 : ((base ++ [q.bid])).length < 1099511627776 := by first | omega | (simp; omega)
                go_wp2_with (at_builtin; refine wpList_push _ q.ask w2.heap.size ((base ++ [q.bid])) _ _ rfl rfl _ rfl rfl HO1.out ?c1 HB1x.out.size ?_)
                case c1 => simpa using hl2
                intro v2 u2 o2 b2 _ _
                have HO2 : Hid (Own u2 w2.heap.size v2 ((base ++ [q.bid]) ++ [q.ask])) := Lib.hid (by simpa using o2)
                have HB2x := Lib.hid (HB1x.out.trans b2)
                clear o2 b2 c0 c1 c2 c3 c4 c5 c6 c7
                obtain ⟨c0, c1, c2, c3, c4, c5, c6, c7⟩ := quote_cells (HQ2.out.below HB2x.out HQ2.out.lt)
                have hl3 : (((base ++ [q.bid]) ++ [q.ask])).length < 1099511627776 := by first | omega | (simp; omega)
                go_wp2_with (at_builtin; refine wpList_push _ q.before w2.heap.size (((base ++ [q.bid]) ++ [q.ask])) _ _ rfl rfl _ rfl rfl HO2.out ?c1 HB2x.out.size ?_)
                case c1 => simpa using hl3
                intro v3 u3 o3 b3 _ _
                have HO3 : Hid (Own u3 w2.heap.size v3 (((base ++ [q.bid]) ++ [q.ask]) ++ [q.before])) := Lib.hid (by simpa using o3)
                have HB3x := Lib.hid (HB2x.out.trans b3)
                clear o3 b3 c0 c1 c2 c3 c4 c5 c6 c7
                obtain ⟨c0, c1, c2, c3, c4, c5, c6, c7⟩ := quote_cells (HQ2.out.below HB3x.out HQ2.out.lt)
                have hNl : ps.length ≤ 1048600 := by rw [← HPZ.out]; simp; omega
                have o5 := HO3.out
                rw [HPZ.out] at o5
                obtain ⟨A5, k5, hv5, hI5⟩ := Own.ints o5 KR.out
                subst hv5
                have HI5 := Lib.hid hI5
                have HB5 := HB3x
                clear o5 hI5 HO3 HPZ KR HO HB
                generalize u3 = w5 at *
                go_wp2_with fail
                go_loopw [9, 10] (fun i _ wr => ∃ k : Nat, k ≤ ps.length ∧ i = .int .i64 (k : Int) ∧ Hid (MK.firstE p (ps.take k) = 0) ∧ Hid (Below w5.heap.size w5 wr)) (fun i _ _ => ps.length - (intOf i).toNat)
                case atStart => exact ⟨0, by omega, rfl, Lib.hid rfl, Lib.hid (Below.refl _ _)⟩
                case round =>
                  clear c0 c1 c2 c3 c4 c5 c6 c7
                  obtain ⟨k, hk, rfl, HE, HW⟩ := hrel
                  have HBW := Lib.hid (HB5.out.trans (HW.out.mono HB5.out.size))
                  by_cases hlt : k < ps.length
                  · obtain ⟨b, off, y, rfl, hb, d0, HV, x1, x2⟩ := (HI5.out.below HW.out).get hlt
                    have C := Lib.hid (fun ww => CF.out y ww)
                    have HF := Lib.hid (F1.out k hlt HE.out)
                    have HS := Lib.hid (F2.out k hlt HE.out)
                    have HV2 : Hid (MK.xAt ps k = y) := Lib.hid HV.out
                    rw [HV2.out] at HF HS
                    generalize QM.priceE p y = pe at *
                    have HPr := HP2.out.below HBW.out HP2.out.lt
                    have HSX : Hid (∀ ww, Below wr.heap.size wr ww → (ww.cell? ⟨b, off + k, none⟩ = some (.int .i64 y)) ∧ (ww.cell? ⟨w.heap.size, 0, none⟩ = some (.string p.name) ∧ ww.cell? ⟨w.heap.size, 1, none⟩ = some (.int .i64 p.cur) ∧ ww.cell? ⟨w.heap.size, 2, none⟩ = some (.int .i64 p.mult) ∧ ww.cell? ⟨w.heap.size, 3, none⟩ = some (.int .i64 p.tick) ∧ ww.cell? ⟨w.heap.size, 4, none⟩ = some (.int .i64 p.low) ∧
                      ww.cell? ⟨w.heap.size, 5, none⟩ = some (.int .i64 p.high) ∧ ww.cell? ⟨w.heap.size, 6, none⟩ = some (.bool p.phys))) := Lib.hid (fun ww h => ⟨(h.cell (p := ⟨b, off + k, none⟩) hb).trans d0, (HPr.below h HPr.lt).cells⟩)
                    have HBw : Hid (Below wr.heap.size wr wr.drew) := Lib.hid (Below.refl _ _).drew
                    clear HV HV2 HE HPr d0
                    go_wp2_with fail
                    go_region_held3 (fun ww => (ww.cell? ⟨b, off + k, none⟩ = some (.int .i64 y)) ∧ (ww.cell? ⟨w.heap.size, 0, none⟩ = some (.string p.name) ∧ ww.cell? ⟨w.heap.size, 1, none⟩ = some (.int .i64 p.cur) ∧ ww.cell? ⟨w.heap.size, 2, none⟩ = some (.int .i64 p.mult) ∧ ww.cell? ⟨w.heap.size, 3, none⟩ = some (.int .i64 p.tick) ∧ ww.cell? ⟨w.heap.size, 4, none⟩ = some (.int .i64 p.low) ∧
                      ww.cell? ⟨w.heap.size, 5, none⟩ = some (.int .i64 p.high) ∧ ww.cell? ⟨w.heap.size, 6, none⟩ = some (.bool p.phys)))
                      (exact HSX.out _ HBw.out)
                      ((go_at_call 61; refine (C.out _).mono ?_; rintro e w6 ⟨rfl, b6⟩; replace HBw := Lib.hid (HBw.out.trans (b6.mono HBw.out.size)); clear b6))
                    all_goals (
                      have HW6 := Lib.hid (HW.out.trans (HBw.out.mono HW.out.size))
                      clear HSX HBw HW
                      by_cases hpe : pe = 0
                      · have HZ := Lib.hid (HS.out hpe)
                        subst hpe
                        go_wp2_with fail
                        go_roundw
                        case rel => exact ⟨k + 1, by omega, by go_num, HZ, HW6⟩
                        case measure => simp [intOf]; omega
                      · have HX := Lib.hid (KF.out (by trivial) (by trivial) HT.out HL.out (by rw [HF.out hpe]; exact hpe))
                        have HX2 := Lib.hid (HF.out hpe)
                        have hne : (pe != 0) = true := by simpa using hpe
                        have HBF := Lib.hid (HB2.out.trans ((HB5.out.trans (HW6.out.mono HB5.out.size)).mono HB2.out.size))
                        clear hpe
                        go_wp2_with fail
                        go_ret
                        exact ⟨by rw [HX.out, HX2.out] <;> rfl, HBF.out⟩)
                  · obtain rfl : k = ps.length := by omega
                    have HZ : Hid (MK.firstE p ps = 0) := Lib.hid (by rw [← F3.out]; exact HE.out)
                    have HBF := Lib.hid (HB2.out.trans (HBW.out.mono HB2.out.size))
                    obtain ⟨c0, c1, c2, c3, c4, c5, c6, c7⟩ := quote_cells (HQ2.out.below HBW.out HQ2.out.lt)
                    have KC2 := Lib.hid (KC.out (by trivial) (by trivial) HT.out HL.out HZ.out)
                    have KO2 := Lib.hid (KO.out (by trivial) (by trivial) HT.out HL.out HZ.out)
                    by_cases hlt2 : q.ask < q.bid
                    · have HX := Lib.hid (KC2.out (by rw [HM2.out, e1, e2, decide_eq_true hlt2]; simp))
                      go_wp2_with fail
                      go_ret
                      exact ⟨by rw [HX.out] <;> rfl, HBF.out⟩
                    · have hd : decide (q.ask < q.bid) = false := decide_eq_false hlt2
                      go_wp2_with fail
                      refine (CI.out _).mono ?_
                      rintro e w6 ⟨rfl, rfl⟩
                      cases hi : MK.isP q.move
                      · have HX := Lib.hid (KC2.out (by rw [HM2.out, e1, e2, hi, hd]; simp))
                        clear hi
                        go_wp2_with fail
                        go_ret
                        exact ⟨by rw [HX.out] <;> rfl, HBF.out⟩
                      · have HX := Lib.hid (KO2.out (by rw [HM2.out, e1, e2, hi, hd]; simp))
                        clear hi
                        go_wp2_with fail
                        go_ret
                        exact ⟨by rw [HX.out] <;> rfl, HBF.out⟩
      · have g5 : q.to_ < q.from_ := by omega
        have HX := Lib.hid (KM.out (by trivial) (by trivial) (by rw [HM1.out, g1, g2, decide_eq_false g4]; rfl))
        clear g1 g2 g4
        go_wp2_with fail
        go_ret
        exact ⟨by rw [HX.out] <;> rfl, HB2.out⟩
    · have HX := Lib.hid (KT.out (by trivial) het)
      have hne : (et != 0) = true := by simpa using het
      clear het
      go_wp2_with fail
      go_ret
      exact ⟨by rw [HX.out] <;> rfl, HB2.out⟩
  · have HX := Lib.hid (KP.out hep)
    have hne : (ep != 0) = true := by simpa using hep
    clear hep
    go_wp2_with fail
    go_ret
    exact ⟨by rw [HX.out] <;> rfl, HB1.out⟩
end Go.Proofs.Ytaegapcccboinaa
