/- Put together: VtG, VtMath, VtA, VtB, VtC, VtD, VtH, VtI. -/
import Derived.Test.YtagmknahmkniaaaBun9
import Derived.Test.YtagmknahmkniaaaBun6
import Derived.Test.YtagmknahmkniaaaBun5
import Derived.Test.YtagmknahmkniaaaBun4
import Derived.Laws.Externs
import Derived.WalkKit
import Derived.Deep.RegionHeld3
import Derived.Test.YtagmknahmkniaaaBun3
/- Contracts of layer 20: what a position gets. -/
namespace Go.Proofs.Ytagmknahmkniaaa
open Go.RowKit Go.Recs
set_option linter.unusedVariables false
set_option linter.unusedSimpArgs false
set_option maxHeartbeats 8000000 in
set_option maxRecDepth 100000 in
theorem vposs_any (m : VM.Mkt) (x : PO.Pos) (q : Int) (hqv : wrap64 (x.lo - x.sh) = q) (w : World) (hM : VM.MktAt w m) :
    Calls Try.prog 50 #[mktA m, posA x] w fun e w' => e = .returned (.tuple #[.int .i64 (oneC m.pl m.nl x.ser q (MR.findN m.bl x.ser) (MR.findB m.bl x.ser)), .int .i64 (oneN m.pl m.nl x.ser q (MR.findN m.bl x.ser) (MR.findB m.bl x.ser)), .int .i64 (oneE m.pl m.nl x.ser q (MR.findN m.bl x.ser) (MR.findB m.bl x.ser))]) ∧ Below w.heap.size w w' := by
  have hpq := firstQV hM.p x.ser.prod
  have C1 := Lib.hid (fun ww h => qfind_any m.pa m.pl m.pc x.ser.prod ww h)
  have C2 := Lib.hid (fun ww h => mfind_any m.na m.nl m.nl.length m.nc rfl x.ser ww h)
  have C0 := Lib.hid (fun ww h => mfind_any m.ba m.bl m.bl.length m.bc rfl x.ser ww h)
  have C3 := Lib.hid (fun ww => vcarried_any (firstP m.pl x.ser.prod).1 q (MR.findN m.bl x.ser) (MR.findN m.nl x.ser) hpq ww)
  have C4 := Lib.hid (fun ww => vnet_any x q hqv ww)
  have HB0 := Lib.hid (below_al (below_al (Below.refl w.heap.size w) (.cells (mktC m) 93)) (.cells (posC x) 80))
  have HX0 := Lib.hid ((CB.new w 93 (mktC m)).alloc (.cells (posC x) 80))
  have HY0 := Lib.hid (CB.new1 w (.cells (mktC m) 93) 80 (posC x))
  have HM0 := Lib.hid (hM.below (((Below.refl _ w).alloc (Nat.le_refl _) (.cells (mktC m) 93)).alloc (by simp) (.cells (posC x) 80)))
  have HE : Hid (oneE m.pl m.nl x.ser q (MR.findN m.bl x.ser) (MR.findB m.bl x.ser) = if (firstP m.pl x.ser.prod).2 = false then 19 else if (MR.findB m.bl x.ser && MR.findB m.nl x.ser) = false then 11 else VM.carE (firstP m.pl x.ser.prod).1 q (MR.findN m.bl x.ser) (MR.findN m.nl x.ser)) := Lib.hid rfl
  have HV := Lib.hid (fun e h he => @one_val m.pl m.nl x.ser q (MR.findN m.bl x.ser) (MR.findB m.bl x.ser) e h he)
  have HN : Hid (oneE m.pl m.nl x.ser q (MR.findN m.bl x.ser) (MR.findB m.bl x.ser) = 0 → oneN m.pl m.nl x.ser q (MR.findN m.bl x.ser) (MR.findB m.bl x.ser) = VM.carN (firstP m.pl x.ser.prod).1 q (MR.findN m.bl x.ser) (MR.findN m.nl x.ser) ∧ oneC m.pl m.nl x.ser q (MR.findN m.bl x.ser) (MR.findB m.bl x.ser) = (firstP m.pl x.ser.prod).1.cur) := Lib.hid (fun h => by unfold oneN oneC; rw [if_pos h, if_pos h]; exact ⟨rfl, rfl⟩)
  obtain ⟨x0, x1, x2⟩ := mkt_cells HX0.out
  have yc := fun i => HY0.out.cell i
  have y2 : _ = some _ := yc 0
  have y3 : _ = some _ := yc 1
  have y4 : _ = some _ := yc 2
  have y5 : _ = some _ := yc 3
  clear yc
  generalize oneE m.pl m.nl x.ser q (MR.findN m.bl x.ser) (MR.findB m.bl x.ser) = oe at *
  generalize oneN m.pl m.nl x.ser q (MR.findN m.bl x.ser) (MR.findB m.bl x.ser) = on at *
  generalize oneC m.pl m.nl x.ser q (MR.findN m.bl x.ser) (MR.findB m.bl x.ser) = oc at *
  generalize VM.carE (firstP m.pl x.ser.prod).1 q (MR.findN m.bl x.ser) (MR.findN m.nl x.ser) = ce at *
  generalize VM.carN (firstP m.pl x.ser.prod).1 q (MR.findN m.bl x.ser) (MR.findN m.nl x.ser) = cn at *
  generalize MR.findN m.nl x.ser = fn at *
  generalize MR.findN m.bl x.ser = bn at *
  generalize MR.findB m.bl x.ser = bb at *
  generalize MR.findB m.nl x.ser = fb at *
  generalize firstP m.pl x.ser.prod = pp at *
  obtain ⟨p, ok⟩ := pp
  clear hM hpq
  go_enter Try.func50, Try.ntmps50
  go_wp2_with fail
  refine (C1.out _ HM0.out.p).mono ?_
  rintro e w1 ⟨rfl, b1⟩
  have HB1 := Lib.hid (below_al (HB0.out.trans (b1.mono HB0.out.size)) (.cells #[.string p.name, .int .i64 p.cur, .int .i64 p.mult, .int .i64 p.tick, .int .i64 p.low, .int .i64 p.high, .bool p.phys] 52))
  have bx1 : Below w1.heap.size w1 (w1.alloc (.cells #[.string p.name, .int .i64 p.cur, .int .i64 p.mult, .int .i64 p.tick, .int .i64 p.low, .int .i64 p.high, .bool p.phys] 52)) := (Below.refl _ w1).alloc (Nat.le_refl _) _
  have HX1 := Lib.hid ((HX0.out.below b1 HX0.out.lt).alloc (.cells #[.string p.name, .int .i64 p.cur, .int .i64 p.mult, .int .i64 p.tick, .int .i64 p.low, .int .i64 p.high, .bool p.phys] 52))
  have HY1 := Lib.hid ((HY0.out.below b1 HY0.out.lt).alloc (.cells #[.string p.name, .int .i64 p.cur, .int .i64 p.mult, .int .i64 p.tick, .int .i64 p.low, .int .i64 p.high, .bool p.phys] 52))
  have HM1 := Lib.hid ((HM0.out.below b1).below bx1)
  have HP1 := Lib.hid (PBox.new w1 p)
  clear b1 bx1 x0 x1 x2 y2 y3 y4 y5 HX0 HY0 HM0 HB0 C1
  obtain ⟨x0, x1, x2⟩ := mkt_cells HX1.out
  have y2 : _ = some _ := HY1.out.cell 0
  have y3 : _ = some _ := HY1.out.cell 1
  have y4 : _ = some _ := HY1.out.cell 2
  have y5 : _ = some _ := HY1.out.cell 3
  cases ok
  · have HE2 : Hid (oe = 19) := Lib.hid (by rw [HE.out]; rfl)
    have HV2 := Lib.hid (HV.out 19 HE2.out (by decide))
    go_wp2_with fail
    go_ret3
    exact ⟨by rw [HE2.out, HV2.out.1, HV2.out.2]; rfl, HB1.out⟩
  · go_wp2_with fail
    generalize w1.alloc (.cells #[.string p.name, .int .i64 p.cur, .int .i64 p.mult, .int .i64 p.tick, .int .i64 p.low, .int .i64 p.high, .bool p.phys] 52) = u1 at *
    refine (C0.out _ HM1.out.b).mono ?_
    rintro e w9 ⟨rfl, b9⟩
    have HB9 := Lib.hid (HB1.out.trans (b9.mono HB1.out.size))
    have HX9 := Lib.hid (HX1.out.below b9 HX1.out.lt)
    have HY9 := Lib.hid (HY1.out.below b9 HY1.out.lt)
    have HM9 := Lib.hid (HM1.out.below b9)
    have HP9 := Lib.hid (HP1.out.below b9 HP1.out.lt)
    clear b9 x0 x1 x2 y2 y3 y4 y5 HX1 HY1 HM1 HP1 HB1 C0
    obtain ⟨x0, x1, x2⟩ := mkt_cells HX9.out
    have y2 : _ = some _ := HY9.out.cell 0
    have y3 : _ = some _ := HY9.out.cell 1
    have y4 : _ = some _ := HY9.out.cell 2
    have y5 : _ = some _ := HY9.out.cell 3
    go_wp2_with fail
    refine (C2.out _ HM9.out.n).mono ?_
    rintro e w2 ⟨rfl, b2⟩
    have HB2 := Lib.hid (HB9.out.trans (b2.mono HB9.out.size))
    have HY2 := Lib.hid (HY9.out.below b2 HY9.out.lt)
    have HP2 := Lib.hid (HP9.out.below b2 HP9.out.lt)
    clear b2 x0 x1 x2 y2 y3 y4 y5 HX9 HY9 HM9 HP9 HB9 C2
    by_cases hbb : (bb && fb) = false
    · have HE2 : Hid (oe = 11) := Lib.hid (by rw [HE.out, if_neg (by simp), if_pos hbb])
      have HV2 := Lib.hid (HV.out 11 HE2.out (by decide))
      cases bb
      · go_wp2_with fail
        go_ret3
        exact ⟨by rw [HE2.out, HV2.out.1, HV2.out.2]; rfl, HB2.out⟩
      · cases fb
        · go_wp2_with fail
          go_ret3
          exact ⟨by rw [HE2.out, HV2.out.1, HV2.out.2]; rfl, HB2.out⟩
        · cases hbb
    · have HE2 : Hid (oe = ce) := Lib.hid (by rw [HE.out, if_neg (by simp), if_neg hbb])
      obtain ⟨rfl, rfl⟩ : bb = true ∧ fb = true := by simpa using hbb
      have HSX : Hid (∀ ww, Below w2.heap.size w2 ww → (ww.cell? ⟨w1.heap.size, 0, none⟩ = some (.string p.name) ∧ ww.cell? ⟨w1.heap.size, 1, none⟩ = some (.int .i64 p.cur) ∧ ww.cell? ⟨w1.heap.size, 2, none⟩ = some (.int .i64 p.mult) ∧ ww.cell? ⟨w1.heap.size, 3, none⟩ = some (.int .i64 p.tick) ∧ ww.cell? ⟨w1.heap.size, 4, none⟩ = some (.int .i64 p.low) ∧ ww.cell? ⟨w1.heap.size, 5, none⟩ = some (.int .i64 p.high) ∧ ww.cell? ⟨w1.heap.size, 6, none⟩ = some (.bool p.phys)) ∧ (ww.cell? ⟨w.heap.size + 1, 0, none⟩ = some (.string x.ser.prod) ∧ ww.cell? ⟨w.heap.size + 1, 1, none⟩ = some (.int .i64 x.ser.kind) ∧ ww.cell? ⟨w.heap.size + 1, 2, none⟩ = some (.int .i64 x.ser.expiry) ∧ ww.cell? ⟨w.heap.size + 1, 3, none⟩ = some (.int .i64 x.ser.strike) ∧ ww.cell? ⟨w.heap.size + 1, 4, none⟩ = some (.int .i64 x.lo) ∧ ww.cell? ⟨w.heap.size + 1, 5, none⟩ = some (.int .i64 x.sh))) := Lib.hid (fun ww h => ⟨(HP2.out.below h HP2.out.lt).cells, (HY2.out.below h HY2.out.lt).cell 0, (HY2.out.below h HY2.out.lt).cell 1, (HY2.out.below h HY2.out.lt).cell 2, (HY2.out.below h HY2.out.lt).cell 3, (HY2.out.below h HY2.out.lt).cell 4, (HY2.out.below h HY2.out.lt).cell 5⟩)
      have HBw : Hid (Below w2.heap.size w2 w2.drew) := Lib.hid (Below.refl _ _).drew
      clear hbb
      go_wp2_with fail
      go_region_held3 (fun ww => (ww.cell? ⟨w1.heap.size, 0, none⟩ = some (.string p.name) ∧ ww.cell? ⟨w1.heap.size, 1, none⟩ = some (.int .i64 p.cur) ∧ ww.cell? ⟨w1.heap.size, 2, none⟩ = some (.int .i64 p.mult) ∧ ww.cell? ⟨w1.heap.size, 3, none⟩ = some (.int .i64 p.tick) ∧ ww.cell? ⟨w1.heap.size, 4, none⟩ = some (.int .i64 p.low) ∧ ww.cell? ⟨w1.heap.size, 5, none⟩ = some (.int .i64 p.high) ∧ ww.cell? ⟨w1.heap.size, 6, none⟩ = some (.bool p.phys)) ∧ (ww.cell? ⟨w.heap.size + 1, 0, none⟩ = some (.string x.ser.prod) ∧ ww.cell? ⟨w.heap.size + 1, 1, none⟩ = some (.int .i64 x.ser.kind) ∧ ww.cell? ⟨w.heap.size + 1, 2, none⟩ = some (.int .i64 x.ser.expiry) ∧ ww.cell? ⟨w.heap.size + 1, 3, none⟩ = some (.int .i64 x.ser.strike) ∧ ww.cell? ⟨w.heap.size + 1, 4, none⟩ = some (.int .i64 x.lo) ∧ ww.cell? ⟨w.heap.size + 1, 5, none⟩ = some (.int .i64 x.sh)))
        (with_reducible exact HSX.out _ HBw.out)
        (first
          | (go_at_call 63; refine (C4.out _).mono ?_; rintro e w6 ⟨rfl, b6⟩; replace HBw := Lib.hid (HBw.out.trans (b6.mono HBw.out.size)); clear b6)
          | (go_at_call 21; refine (C3.out _).mono ?_; rintro e w6 ⟨rfl, b6⟩; replace HBw := Lib.hid (HBw.out.trans (b6.mono HBw.out.size)); clear b6))
      all_goals (
        have HB3 := Lib.hid (HB2.out.trans (HBw.out.mono HB2.out.size))
        have hcl := (HSX.out _ HBw.out).1
        obtain ⟨p0, p1, p2, p3, p4, p5, p6⟩ := hcl
        clear HSX HBw HY2 HP2 HB2
        by_cases hce : ce = 0
        · subst hce
          have HN2 := Lib.hid (HN.out HE2.out)
          go_wp2_with fail
          go_ret3
          exact ⟨by rw [HE2.out, HN2.out.1, HN2.out.2]; rfl, HB3.out⟩
        · have HV2 := Lib.hid (HV.out ce HE2.out hce)
          have hd : (ce != 0) = true := by simpa using hce
          clear hce
          go_wp2_with fail
          go_ret3
          exact ⟨by rw [HE2.out, HV2.out.1, HV2.out.2]; rfl, HB3.out⟩)
end Go.Proofs.Ytagmknahmkniaaa

/- Layer 20's mathematics: exact sums in two words. -/
namespace VM
set_option linter.unusedVariables false
/-- the bits of an int beyond its own -/
def sB (n : Int) : Int := if n < 0 then 18446744073709551615 else 0
theorem sB_neg {n : Int} (h : n < 0) : sB n = 18446744073709551615 := by unfold sB; rw [if_pos h]
theorem sB_pos {n : Int} (h : ¬ n < 0) : sB n = 0 := by unfold sB; rw [if_neg h]
/-- two words hold the sum T -/
structure TotIs (h l T : Int) : Prop where
  h0 : 0 ≤ h ∧ h < 18446744073709551616
  l0 : 0 ≤ l ∧ l < 18446744073709551616
  eq : h * 18446744073709551616 + l = T % 340282366920938463463374607431768211456
theorem tot_zero : TotIs 0 0 0 := ⟨by omega, by omega, by omega⟩
theorem tot_plus {h l T n u : Int} (H : TotIs h l T) (hn : -9223372036854775808 ≤ n ∧ n ≤ 9223372036854775807) (hu : u = n % 18446744073709551616) :
    TotIs ((h + sB n + (l + u) / 18446744073709551616) % 18446744073709551616) ((l + u) % 18446744073709551616) (T + n) := by
  obtain ⟨⟨a1, a2⟩, ⟨b1, b2⟩, e⟩ := H
  subst hu
  refine ⟨by omega, by omega, ?_⟩
  by_cases hs : n < 0
  · rw [sB_neg hs]; omega
  · rw [sB_pos hs]; omega
theorem tot_money {h l T : Int} (H : TotIs h l T) (hT : -1267650600228229401496703205376 ≤ T ∧ T ≤ 1267650600228229401496703205376) {n : Int} (hn : n = if l < 9223372036854775808 then l else l - 18446744073709551616) :
    (h = sB n ∧ n = T) ∨ (h ≠ sB n ∧ (T < -9223372036854775808 ∨ 9223372036854775807 < T)) := by
  obtain ⟨⟨a1, a2⟩, ⟨b1, b2⟩, e⟩ := H
  by_cases hl : l < 9223372036854775808
  · rw [if_pos hl] at hn
    rw [sB_pos (by omega)]
    by_cases hh : h = 0
    · exact .inl ⟨hh, by omega⟩
    · exact .inr ⟨hh, by omega⟩
  · rw [if_neg hl] at hn
    rw [sB_neg (by omega)]
    by_cases hh : h = 18446744073709551615
    · exact .inl ⟨hh, by omega⟩
    · exact .inr ⟨hh, by omega⟩
theorem tot_nought {h l T : Int} (H : TotIs h l T) (hT : -1267650600228229401496703205376 ≤ T ∧ T ≤ 1267650600228229401496703205376) : (h = 0 ∧ l = 0) ↔ T = 0 := by
  obtain ⟨⟨a1, a2⟩, ⟨b1, b2⟩, e⟩ := H
  constructor
  · rintro ⟨rfl, rfl⟩; omega
  · intro h; subst h; omega
end VM

/- Contracts of layer 20: exact sums in two words. -/
namespace Go.Proofs.Ytagmknahmkniaaa
open Go.RowKit
set_option linter.unusedVariables false
set_option linter.unusedSimpArgs false
theorem add64 (x y c : Int) (hx : 0 ≤ x) (hy : 0 ≤ y) (hc0 : 0 ≤ c) (hc : c ≤ 1) (w : World) : (callFunc 77 #[.int .u64 x, .int .u64 y, .int .u64 c]).run Try.prog w =
    .ok (.value (.tuple #[.int .u64 ((x + y + c) % 18446744073709551616), .int .u64 ((x + y + c) / 18446744073709551616)])) w := by
  rw [run_callFunc_extern Try.func77 (by kernel_rfl) (by kernel_rfl) (by kernel_rfl) (e := add64Entry) (by kernel_rfl), run_add64 x y c hx hy hc0 hc]
  rfl
theorem add64_0 (x y : Int) (hx : 0 ≤ x) (hy : 0 ≤ y) (w : World) : (callFunc 77 #[.int .u64 x, .int .u64 y, .int .u64 0]).run Try.prog w =
    .ok (.value (.tuple #[.int .u64 ((x + y) % 18446744073709551616), .int .u64 ((x + y) / 18446744073709551616)])) w := by
  simpa using add64 x y 0 hx hy (Int.le_refl 0) (by decide) w
theorem vsign_any (n : Int) (w : World) : Calls Try.prog 78 #[.int .i64 n] w fun e w' => e = .returned (.int .u64 (VM.sB n)) ∧ w = w' := by
  by_cases h : n < 0
  · rw [VM.sB_neg h]
    go_enter Try.func78, Try.ntmps78
    go_wp2
    go_ret
    exact ⟨rfl, rfl⟩
  · rw [VM.sB_pos h]
    go_enter Try.func78, Try.ntmps78
    go_wp2
    go_ret
    exact ⟨rfl, rfl⟩
end Go.Proofs.Ytagmknahmkniaaa

/- Contracts of layer 20: a sum with an int more, a sum as money. -/
namespace Go.Proofs.Ytagmknahmkniaaa
open Go.RowKit
set_option linter.unusedVariables false
set_option linter.unusedSimpArgs false
abbrev totA (h l : Int) : Value := .agg #[.int .u64 h, .int .u64 l]
abbrev totC (h l : Int) : Array Value := #[.int .u64 h, .int .u64 l]
theorem quietV {P : Program} {f : FuncId} {args : Array Value} {w : World} {n : Nat} {v : Value}
    (h : Calls P f args (w.drewN n) fun e w' => e = .returned v ∧ w.drewN n = w') : Calls P f args (w.drewN n) fun e w' => e = .returned v ∧ ∃ m, w' = w.drewN m :=
  h.mono fun e w' ⟨h1, h2⟩ => ⟨h1, n, h2.symm⟩
theorem tot_under : Try.prog.underlying 97 = some (.struct (Try.prog.fieldsOf 97)) := by kernel_rfl
theorem tot_size : (Try.prog.info? 97).map (·.size) = some 2 := by kernel_rfl
theorem load_tot (w : World) (g : Nat) (h l : Int) (hb : CB w g 97 (totC h l)) : (loadVar 97 ⟨g, 0, none⟩).run Try.prog w = .ok (totA h l) w := by
  rw [run_loadVar_row w g 97 97 _ (0, 0) _ hb tot_under rfl tot_size]
theorem results_tot {fn : Func} {p : Tmp} (hr : fn.results = #[.cell p 97]) (tmps : Array Value) (w : World) (g : Nat) (h l : Int)
    (hp : tmps.getD p undef = .pointer (some ⟨g, 0, none⟩)) (hb : CB w g 97 (totC h l)) : (results fn tmps).run Try.prog w = .ok (totA h l) w := by
  rw [results_cell1 hr, hp]
  simp only [asAddr, Sem.run_pure, Result.andThen_ok]
  exact load_tot w g h l hb
set_option maxHeartbeats 4000000 in
theorem vplus_any (h l T n : Int) (H : VM.TotIs h l T) (hn : -9223372036854775808 ≤ n ∧ n ≤ 9223372036854775807) (w : World) :
    Calls Try.prog 64 #[totA h l, .int .i64 n] w fun e w' => ∃ h' l', e = .returned (totA h' l') ∧ VM.TotIs h' l' (T + n) ∧ Below w.heap.size w w' := by
  obtain ⟨u, hu⟩ : ∃ u, IntKind.u64.wrap n = u := ⟨_, rfl⟩
  have hu2 : u = n % 18446744073709551616 := by rw [← hu, IntKind.wrap_u64]
  have HP := Lib.hid (VM.tot_plus H hn hu2)
  obtain ⟨⟨a1, a2⟩, ⟨b1, b2⟩, -⟩ := H
  have E1 := fun ww => add64_0 l u b1 (by omega) ww
  have CS := Lib.hid (fun ww => vsign_any n ww)
  have hs : 0 ≤ VM.sB n ∧ VM.sB n ≤ 18446744073709551615 := by unfold VM.sB; split <;> omega
  have hc : 0 ≤ (l + u) / 18446744073709551616 ∧ (l + u) / 18446744073709551616 ≤ 1 := by omega
  have E2 := fun ww => add64 h (VM.sB n) ((l + u) / 18446744073709551616) a1 hs.1 hc.1 hc.2 ww
  generalize VM.sB n = s at *
  generalize (h + s + (l + u) / 18446744073709551616) / 18446744073709551616 = c2 at *
  generalize (h + s + (l + u) / 18446744073709551616) % 18446744073709551616 = hi at *
  generalize (l + u) / 18446744073709551616 = c at *
  generalize (l + u) % 18446744073709551616 = lo at *
  have HB0 := Lib.hid (below_al (below_al (Below.refl w.heap.size w) (.cells (totC h l) 97)) (.cells (totC 0 0) 97))
  have HC := Lib.hid (CB.new1 w (.cells (totC h l) 97) 97 (totC 0 0))
  clear hs hc hu2 a1 a2 b1 b2 hn
  go_enter Try.func64, Try.ntmps64
  go_wp2_with fail
  go_quiet ((go_at_call 78; exact quietV (CS.out _)))
  go_wp2_with fail
  (try simp only [Exit.inBlock, Exit.then])
  refine bodyPost_ret (results_tot rfl _ _ (w.heap.size + 1) hi lo rfl (((HC.out.drewN nq).set_ 0 (.int .u64 hi)).set_ 1 (.int .u64 lo))) rfl ⟨hi, lo, rfl, HP.out, ((below_drewN HB0.out nq).setCell (p := ⟨w.heap.size + 1, 0, none⟩) (Nat.le_succ _) _).setCell (p := ⟨w.heap.size + 1, 1, none⟩) (Nat.le_succ _) _⟩
set_option maxHeartbeats 4000000 in
theorem vmoney_any (h l T : Int) (H : VM.TotIs h l T) (hT : -1267650600228229401496703205376 ≤ T ∧ T ≤ 1267650600228229401496703205376) (w : World) :
    Calls Try.prog 65 #[totA h l] w fun e w' => e = .returned (.tuple #[.int .i64 (CM.fitN T), .int .i64 (CM.fitE T)]) ∧ Below w.heap.size w w' := by
  obtain ⟨n, hn⟩ : ∃ n, IntKind.i64.wrap l = n := ⟨_, rfl⟩
  have hn2 : n = if l < 9223372036854775808 then l else l - 18446744073709551616 := by
    have := H.l0
    rw [← hn, IntKind.wrap_i64]
    split <;> omega
  have K := VM.tot_money H hT hn2
  have CS := Lib.hid (fun ww => vsign_any n ww)
  have CF := Lib.hid (fun ww => fits_any n ww)
  have HB0 := Lib.hid (below_al (Below.refl w.heap.size w) (.cells (totC h l) 97))
  have hA := CB.new w 97 (totC h l)
  have f0 := hA.cell 0
  have f1 := hA.cell 1
  simp only [List.getElem?_toArray, List.getElem?_cons_zero, List.getElem?_cons_succ] at f0 f1
  clear hA hn2 H hT
  rcases K with ⟨hs, rfl⟩ | ⟨hs, hb⟩
  · rw [← hs] at CS
    have hne : (h != h) = false := by simp
    cases hf : CM.fits n
    · rw [hf] at CF
      have e1 : CM.fitN n = 0 := by unfold CM.fitN; rw [hf]; rfl
      have e2 : CM.fitE n = 3 := by unfold CM.fitE; rw [hf]; rfl
      rw [e1, e2]
      clear e1 e2 hs hf
      go_enter Try.func65, Try.ntmps65
      go_wp2_with fail
      go_quiet ((first | (go_at_call 78; exact quietV (CS.out _)) | (go_at_call 67; exact quietV (CF.out _))))
      go_wp2_with fail
      go_ret2
      exact ⟨rfl, below_drewN HB0.out _⟩
    · rw [hf] at CF
      have e1 : CM.fitN n = n := by unfold CM.fitN; rw [hf]; rfl
      have e2 : CM.fitE n = 0 := by unfold CM.fitE; rw [hf]; rfl
      rw [e1, e2]
      clear e1 e2 hs hf
      go_enter Try.func65, Try.ntmps65
      go_wp2_with fail
      go_quiet ((first | (go_at_call 78; exact quietV (CS.out _)) | (go_at_call 67; exact quietV (CF.out _))))
      go_wp2_with fail
      go_ret2
      exact ⟨rfl, below_drewN HB0.out _⟩
  · have hf : CM.fits T = false := CM.fits_false.2 (by omega)
    have e1 : CM.fitN T = 0 := by unfold CM.fitN; rw [hf]; rfl
    have e2 : CM.fitE T = 3 := by unfold CM.fitE; rw [hf]; rfl
    have hne : (h != VM.sB n) = true := by simpa using hs
    rw [e1, e2]
    generalize VM.sB n = s at *
    clear e1 e2 hs hf hb
    go_enter Try.func65, Try.ntmps65
    go_wp2_with fail
    go_quiet ((go_at_call 78; exact quietV (CS.out _)))
    go_wp2_with fail
    go_ret2
    exact ⟨rfl, below_drewN HB0.out _⟩
end Go.Proofs.Ytagmknahmkniaaa

/- Contracts of layer 20: a purse: a sum for each currency. -/
namespace Go.Proofs.Ytagmknahmkniaaa
open Go.RowKit
set_option linter.unusedVariables false
set_option linter.unusedSimpArgs false
/-- of what was there only block g may have turned -/
structure ButV (g : Nat) (w w' : World) : Prop where
  os : w'.os = w.os
  tape : w'.tape = w.tape
  output : w'.output = w.output
  size : w.heap.size ≤ w'.heap.size
  block : ∀ b, b < w.heap.size → b ≠ g → w'.heap[b]? = w.heap[b]?
theorem ButV.below {g : Nat} {w w' : World} {B : Nat} (h : ButV g w w') (hg : B ≤ g) (hB : B ≤ w.heap.size) : Below B w w' :=
  ⟨h.os, h.tape, h.output, h.size, fun k hk => h.block k (by omega) (by omega)⟩
theorem ButV.of {g : Nat} {w w' : World} (h : Below w.heap.size w w') : ButV g w w' := ⟨h.os, h.tape, h.output, h.size, fun b hb _ => h.block b hb⟩
theorem ButV.setCell {g : Nat} {a w : World} (h : ButV g a w) (i : Nat) (u : Value) : ButV g a (w.setCell ⟨g, i, none⟩ u) :=
  ⟨h.os, h.tape, h.output, by simpa [World.setCell] using h.size, fun b hb hs => (Below.heap_setCell w ⟨g, i, none⟩ u b hs).trans (h.block b hb hs)⟩
/-- block g is a purse of the sums ts -/
def PU (w : World) (g : Nat) (ts : Nat → Int) : Prop := ∃ cs : Array Value, CB w g 99 cs ∧ cs.size = 16 ∧ ∀ i, i < 8 → ∃ h l, cs[i * 2]? = some (.int .u64 h) ∧ cs[i * 2 + 1]? = some (.int .u64 l) ∧ VM.TotIs h l (ts i)
theorem PU.lt {w : World} {g : Nat} {ts : Nat → Int} (h : PU w g ts) : g < w.heap.size := by obtain ⟨cs, h, _⟩ := h; exact h.lt
theorem PU.keep {w w' : World} {g : Nat} {ts : Nat → Int} (h : PU w g ts) (hb : w'.heap[g]? = w.heap[g]?) : PU w' g ts := by
  obtain ⟨cs, h1, h2⟩ := h
  exact ⟨cs, hb.trans h1, h2⟩
theorem PU.below {w w' : World} {g : Nat} {ts : Nat → Int} (h : PU w g ts) (hb : Below w.heap.size w w') : PU w' g ts := h.keep (hb.block g h.lt)
theorem PU.frozen {w : World} {g : Nat} {ts : Nat → Int} (h : PU w g ts) (i : Nat) : w.frozen? ⟨g, i, none⟩ = false := by obtain ⟨cs, h, _⟩ := h; exact h.frozen i
def putT (ts : Nat → Int) (c : Nat) (n : Int) : Nat → Int := fun i => if i = c then ts i + n else ts i
theorem PU.put {w : World} {g c : Nat} {ts : Nat → Int} {n h' l' : Int} (h : PU w g ts) (hc : c < 8) (ht : VM.TotIs h' l' (ts c + n)) : PU ((w.setCell ⟨g, c * 2, none⟩ (.int .u64 h')).setCell ⟨g, c * 2 + 1, none⟩ (.int .u64 l')) g (putT ts c n) := by
  obtain ⟨cs, h1, h2, h3⟩ := h
  refine ⟨_, (h1.set_ (c * 2) _).set_ (c * 2 + 1) _, by simp [h2], fun i hi => ?_⟩
  by_cases e : i = c
  · subst e
    refine ⟨h', l', ?_, ?_, by unfold putT; rw [if_pos rfl]; exact ht⟩
    · rw [Array.getElem?_setIfInBounds_ne (by omega), Array.getElem?_setIfInBounds_self_of_lt (by omega)]
    · rw [Array.getElem?_setIfInBounds_self_of_lt (by simp; omega)]
  · obtain ⟨x, y, e1, e2, e3⟩ := h3 i hi
    refine ⟨x, y, ?_, ?_, by unfold putT; rw [if_neg e]; exact e3⟩
    · rw [Array.getElem?_setIfInBounds_ne (by omega), Array.getElem?_setIfInBounds_ne (by omega)]; exact e1
    · rw [Array.getElem?_setIfInBounds_ne (by omega), Array.getElem?_setIfInBounds_ne (by omega)]; exact e2
theorem PU.at_ {w : World} {g c : Nat} {ts : Nat → Int} (h : PU w g ts) (hc : c < 8) : ∃ x y, w.cell? ⟨g, c * 2, none⟩ = some (.int .u64 x) ∧ w.cell? ⟨g, c * 2 + 1, none⟩ = some (.int .u64 y) ∧ VM.TotIs x y (ts c) := by
  obtain ⟨cs, h1, h2, h3⟩ := h
  obtain ⟨x, y, e1, e2, e3⟩ := h3 c hc
  exact ⟨x, y, (h1.cell _).trans e1, (h1.cell _).trans e2, e3⟩
set_option maxHeartbeats 4000000 in
set_option maxRecDepth 100000 in
theorem vadd_any (g c : Nat) (ts : Nat → Int) (n : Int) (hc : c < 8) (hn : -9223372036854775808 ≤ n ∧ n ≤ 9223372036854775807) (w : World) (hP : PU w g ts) :
    Calls Try.prog 51 #[.pointer (some ⟨g, 0, none⟩), .int .i64 (c : Int), .int .i64 n] w fun e w' => (∃ r, e = .returned r) ∧ PU w' g (putT ts c n) ∧ ButV g w w' := by
  obtain ⟨h, l, c0, c1, HT⟩ := hP.at_ hc
  have HP := Lib.hid hP
  have HL := Lib.hid hP.lt
  have CP := Lib.hid (fun ww => vplus_any h l (ts c) n HT hn ww)
  have HF := Lib.hid (fun ww (hb : Below w.heap.size w ww) => (HP.out.below hb).frozen)
  have hc8 : (c : Int) < 8 := by omega
  have C0 := Lib.hid c0
  have C1 := Lib.hid c1
  clear hP HT
  go_enter Try.func51, Try.ntmps51
  go_wp2_with fail
  go_region_with (go_at_call 64; refine (CP.out _).mono ?_; rintro e w6 ⟨h', l', rfl, ht6, b6⟩; have HT6 := Lib.hid ht6; have HB6 : Hid (Below w.heap.size w w6) := Lib.hid ((Below.refl w.heap.size w).drew.trans b6); have q0 := (HB6.out.cell (p := ⟨g, c * 2, none⟩) HL.out).trans C0.out; have q1 := (HB6.out.cell (p := ⟨g, c * 2 + 1, none⟩) HL.out).trans C1.out; have f0 := HF.out _ HB6.out (c * 2); have f1 := HF.out _ HB6.out (c * 2 + 1); clear b6 ht6)
  all_goals (
    go_wp2_with fail
    go_end0
    exact ⟨⟨_, rfl⟩, (HP.out.below HB6.out).put hc HT6.out, ((ButV.of HB6.out).setCell _ _).setCell _ _⟩)
end Go.Proofs.Ytagmknahmkniaaa

/- Contracts of layer 20: a purse's amounts. -/
namespace VM
def amOk (ts : Nat → Int) : Bool := (List.range 8).all fun i => CM.fits (ts i)
def amE (ts : Nat → Int) : Int := if amOk ts = true then 0 else 3
def amL (ts : Nat → Int) : List Int := if amOk ts = true then (List.range 8).map ts else []
theorem am_bad {ts : Nat → Int} {k : Nat} (hk : k < 8) (h : CM.fits (ts k) = false) : amE ts = 3 ∧ amL ts = [] := by
  have e : amOk ts = false := by
    cases he : amOk ts
    · rfl
    · have := List.all_eq_true.1 he k (List.mem_range.2 hk)
      rw [h] at this; cases this
  exact ⟨by unfold amE; rw [e]; rfl, by unfold amL; rw [e]; rfl⟩
theorem am_ok {ts : Nat → Int} (h : ∀ j, j < 8 → CM.fits (ts j) = true) : amE ts = 0 ∧ amL ts = (List.range 8).map ts := by
  have e : amOk ts = true := List.all_eq_true.2 fun i hi => h i (List.mem_range.1 hi)
  exact ⟨by unfold amE; rw [e]; rfl, by unfold amL; rw [e]; rfl⟩
end VM
namespace Go.Proofs.Ytagmknahmkniaaa
open Go.RowKit
set_option linter.unusedVariables false
set_option linter.unusedSimpArgs false
set_option maxHeartbeats 4000000 in
set_option maxRecDepth 100000 in
theorem vamounts_any (g : Nat) (ts : Nat → Int) (hT : ∀ i, i < 8 → -1267650600228229401496703205376 ≤ ts i ∧ ts i ≤ 1267650600228229401496703205376) (w : World) (hP : PU w g ts) :
    Calls Try.prog 53 #[.pointer (some ⟨g, 0, none⟩)] w fun e w' => ∃ v, e = .returned (.tuple #[v, .int .i64 (VM.amE ts)]) ∧ Own w' w.heap.size v (VM.amL ts) ∧ Below w.heap.size w w' := by
  have HP := Lib.hid hP
  have KB := Lib.hid (fun k (hk : k < 8) h => @VM.am_bad ts k hk h)
  have KO := Lib.hid (@VM.am_ok ts)
  have CMo := Lib.hid (fun k (hk : k < 8) h l H ww => vmoney_any h l (ts k) H (hT k hk) ww)
  have KS := Lib.hid (fun k => (show (List.range (k + 1)).map ts = (List.range k).map ts ++ [ts k] by rw [List.range_succ, List.map_append]; rfl))
  generalize VM.amE ts = ae at *
  generalize VM.amL ts = al at *
  clear hP hT
  go_enter Try.func53, Try.ntmps53
  go_wp2_with fail
  go_loopw [2, 3, 5, 6, 7, 10] (fun v _ _ _ _ i wr => ∃ k : Nat, k ≤ 8 ∧ i = .int .i64 (k : Int) ∧ Hid (Own wr w.heap.size v ((List.range k).map ts)) ∧ Hid (∀ j, j < k → CM.fits (ts j) = true) ∧ Hid (Below w.heap.size w wr)) (fun _ _ _ _ _ i _ => 8 - (intOf i).toNat)
  case atStart => exact ⟨0, by omega, rfl, Lib.hid (Own.nil _ _), Lib.hid (fun j h => by omega), Lib.hid (Below.refl _ _)⟩
  case round =>
    obtain ⟨k, hk, rfl, HO, HF, HB⟩ := hrel
    by_cases hlt : k < 8
    · obtain ⟨h, l, c0, c1, HT⟩ := (HP.out.below HB.out).at_ hlt
      have C := Lib.hid (CMo.out k hlt h l HT)
      have HBx := Lib.hid (below_al HB.out (.cells (totC h l) 97))
      have HOx := Lib.hid (HO.out.alloc (.cells (totC h l) 97))
      have hT := CB.new wr 97 (totC h l)
      have f0 := hT.cell 0
      have f1 := hT.cell 1
      simp only [List.getElem?_toArray, List.getElem?_cons_zero, List.getElem?_cons_succ] at f0 f1
      have hlt' : (k : Int) < 8 := by omega
      clear hT HT
      cases hf : CM.fits (ts k)
      · obtain ⟨e1, e2⟩ := KB.out k hlt hf
        have C2 : ∀ ww, Calls Try.prog 65 #[totA h l] ww fun e w' => e = .returned (.tuple #[.int .i64 0, .int .i64 3]) ∧ Below ww.heap.size ww w' := fun ww => by
          have := C.out ww
          rwa [show CM.fitN (ts k) = 0 by unfold CM.fitN; rw [hf]; rfl, show CM.fitE (ts k) = 3 by unfold CM.fitE; rw [hf]; rfl] at this
        have C2 := Lib.hid C2
        have HE1 := Lib.hid e1; have HE2 := Lib.hid e2
        clear hf e1 e2 C
        go_wp2_with fail
        refine (C2.out _).mono ?_
        rintro e w5 ⟨rfl, b5⟩
        have HB5 := Lib.hid (HBx.out.trans (b5.mono HBx.out.size))
        clear b5
        go_wp2_with fail
        go_ret2
        exact ⟨_, by rw [HE1.out]; rfl, by rw [HE2.out]; exact Own.nil _ _, HB5.out⟩
      · have C2 : ∀ ww, Calls Try.prog 65 #[totA h l] ww fun e w' => e = .returned (.tuple #[.int .i64 (ts k), .int .i64 0]) ∧ Below ww.heap.size ww w' := fun ww => by
          have := C.out ww
          rwa [show CM.fitN (ts k) = ts k by unfold CM.fitN; rw [hf]; rfl, show CM.fitE (ts k) = 0 by unfold CM.fitE; rw [hf]; rfl] at this
        have C2 := Lib.hid C2
        have HF2 : Hid (∀ j, j < k + 1 → CM.fits (ts j) = true) := Lib.hid (fun j hj => by
          rcases Nat.lt_or_ge j k with g | g
          · exact HF.out j g
          · obtain rfl : j = k := by omega
            exact hf)
        have HK := Lib.hid (KS.out k)
        obtain ⟨row, hrow⟩ : ∃ row, (List.range k).map ts = row := ⟨_, rfl⟩
        have hrl : row.length < 1099511627776 := by rw [← hrow, List.length_map, List.length_range]; omega
        rw [hrow] at HOx HK
        have HRL := Lib.hid hrl
        generalize ts k = tk at *
        clear hf C hrow hrl
        go_wp2_with fail
        refine (C2.out _).mono ?_
        rintro e w5 ⟨rfl, b5⟩
        have HB5 := Lib.hid (HBx.out.trans (b5.mono HBx.out.size))
        have HO5 := Lib.hid (HOx.out.below b5)
        clear b5 HBx HOx
        go_wp2_with (at_builtin; refine wpList_push w5 tk w.heap.size row _ _ rfl rfl _ rfl rfl HO5.out HRL.out HB5.out.size ?_)
        rintro v6 w6 o6 b6 s6 g6
        have HO6 : Hid (Own w6 w.heap.size v6 ((List.range (k + 1)).map ts)) := Lib.hid (by rw [HK.out]; exact o6)
        have HB6 := Lib.hid (HB5.out.trans b6)
        clear o6 b6 s6 g6 HB5 HO5
        go_wp2_with fail
        go_roundw
        case rel => exact ⟨k + 1, by omega, by go_num, HO6, HF2, HB6⟩
        case measure => simp [intOf]; omega
    · obtain rfl : k = 8 := by omega
      obtain ⟨e1, e2⟩ := KO.out HF.out
      have HE1 := Lib.hid e1; have HE2 := Lib.hid e2
      clear e1 e2
      go_wp2_with fail
      go_ret2
      exact ⟨_, by rw [HE1.out]; rfl, by rw [HE2.out]; exact HO.out, HB.out⟩
end Go.Proofs.Ytagmknahmkniaaa

/- Layer 20's sums over a row of items; a row of positions and legs as items. -/
namespace VM
set_option linter.unusedVariables false
structure It where
  e : Int
  c : Int
  n : Int
/-- the first error -/
def fE : List It → Int
  | [] => 0
  | x :: l => if x.e ≠ 0 then x.e else fE l
theorem fE_app (a b : List It) : fE (a ++ b) = if fE a ≠ 0 then fE a else fE b := by
  induction a with
  | nil => simp [fE]
  | cons x a ih =>
    by_cases h : x.e = 0
    · simp only [List.cons_append, fE, h, ne_eq, not_true_eq_false, if_false]
      exact ih
    · simp only [List.cons_append, fE, h, ne_eq, not_false_eq_true, if_true]
theorem fE_snoc {a : List It} (h : fE a = 0) (b : List It) : fE (a ++ b) = fE b := by rw [fE_app, h, if_neg (by simp)]
theorem fE_stop {a b : List It} {e : Int} (h : fE a = e) (he : e ≠ 0) : fE (a ++ b) = e := by rw [fE_app, h, if_pos he]
/-- the sum of a currency -/
def tS (l : List It) (i : Nat) : Int := LM.tot (l.map fun x => if x.c = (i : Int) then x.n else 0)
theorem tS_nil : tS [] = fun _ => 0 := rfl
theorem tS_app (a b : List It) (i : Nat) : tS (a ++ b) i = tS a i + tS b i := by unfold tS; rw [List.map_append, LM.tot_append]
theorem tS_one (x : It) (i : Nat) : tS [x] i = if x.c = (i : Int) then x.n else 0 := by simp [tS, LM.tot]
theorem tS_bound {l : List It} (h : ∀ x ∈ l, -9223372036854775808 ≤ x.n ∧ x.n ≤ 9223372036854775807) (i : Nat) : -9223372036854775808 * (l.length : Int) ≤ tS l i ∧ tS l i ≤ 9223372036854775808 * (l.length : Int) := by
  induction l with
  | nil => simp [tS, LM.tot]
  | cons x l ih =>
    have h1 := h x (by simp)
    have ih := ih fun y hy => h y (by simp [hy])
    have e : tS (x :: l) i = (if x.c = (i : Int) then x.n else 0) + tS l i := by simp [tS, LM.tot]
    rw [e, List.length_cons]
    split <;> omega
end VM
namespace Go.Proofs.Ytagmknahmkniaaa
open Go.RowKit Go.Recs
set_option linter.unusedVariables false
theorem ButV.trans {g : Nat} {a b c : World} (h : ButV g a b) (k : ButV g b c) : ButV g a c :=
  ⟨k.os.trans h.os, k.tape.trans h.tape, k.output.trans h.output, Nat.le_trans h.size k.size, fun x hx hg => (k.block x (Nat.lt_of_lt_of_le hx h.size) hg).trans (h.block x hx hg)⟩
theorem ButV.refl (g : Nat) (w : World) : ButV g w w := ⟨rfl, rfl, rfl, Nat.le_refl _, fun _ _ _ => rfl⟩
theorem putT_one (ts : List VM.It) (x : VM.It) (c : Nat) (h : x.c = (c : Int)) : putT (VM.tS ts) c x.n = VM.tS (ts ++ [x]) := by
  funext i
  unfold putT
  rw [VM.tS_app, VM.tS_one, h]
  by_cases e : i = c
  · subst e; rw [if_pos rfl, if_pos rfl]
  · rw [if_neg e, if_neg (by omega)]; omega
/-- a position as an item, a leg as an item -/
def itP (m : VM.Mkt) (x : PO.Pos) : List VM.It := if x.ser.kind = 1 then [⟨oneE m.pl m.nl x.ser (wrap64 (x.lo - x.sh)) (MR.findN m.bl x.ser) (MR.findB m.bl x.ser), oneC m.pl m.nl x.ser (wrap64 (x.lo - x.sh)) (MR.findN m.bl x.ser) (MR.findB m.bl x.ser), oneN m.pl m.nl x.ser (wrap64 (x.lo - x.sh)) (MR.findN m.bl x.ser) (MR.findB m.bl x.ser)⟩] else []
def itL (m : VM.Mkt) (y : NM.Leg) : List VM.It := if y.ser.kind = 1 then [⟨oneE m.pl m.nl y.ser y.qty y.price true, oneC m.pl m.nl y.ser y.qty y.price true, oneN m.pl m.nl y.ser y.qty y.price true⟩] else []
def itsP (m : VM.Mkt) (l : List PO.Pos) : List VM.It := l.flatMap (itP m)
def itsL (m : VM.Mkt) (l : List NM.Leg) : List VM.It := l.flatMap (itL m)
theorem itsP_succ (m : VM.Mkt) {l : List PO.Pos} {k : Nat} (h : k < l.length) : itsP m (l.take (k + 1)) = itsP m (l.take k) ++ itP m (PO.pAt l k) := by
  unfold itsP
  rw [List.take_succ_eq_append_getElem h, List.flatMap_append]
  simp [PO.pAt, List.getD, h]
theorem itsL_succ (m : VM.Mkt) {l : List NM.Leg} {k : Nat} (h : k < l.length) : itsL m (l.take (k + 1)) = itsL m (l.take k) ++ itL m (NM.lAt l k) := by
  unfold itsL
  rw [List.take_succ_eq_append_getElem h, List.flatMap_append]
  simp [NM.lAt, List.getD, h]
theorem itsP_len (m : VM.Mkt) (l : List PO.Pos) : (itsP m l).length ≤ l.length := by
  induction l with
  | nil => simp [itsP]
  | cons x l ih =>
    have e : itsP m (x :: l) = itP m x ++ itsP m l := by simp [itsP]
    have h1 : (itP m x).length ≤ 1 := by unfold itP; split <;> simp
    rw [e, List.length_append, List.length_cons]; omega
theorem itsL_len (m : VM.Mkt) (l : List NM.Leg) : (itsL m l).length ≤ l.length := by
  induction l with
  | nil => simp [itsL]
  | cons x l ih =>
    have e : itsL m (x :: l) = itL m x ++ itsL m l := by simp [itsL]
    have h1 : (itL m x).length ≤ 1 := by unfold itL; split <;> simp
    rw [e, List.length_append, List.length_cons]; omega
/-- what lots get is an int, in a currency -/
theorem one_in (pl : List QM.Prod) (nl : List MR.Mk) (s : EM.Ser) (q f : Int) (kn : Bool) : -9223372036854775808 ≤ oneN pl nl s q f kn ∧ oneN pl nl s q f kn ≤ 9223372036854775807 := by
  unfold oneN
  split
  · unfold VM.carN
    split
    · unfold QM.valueN
      split
      · rename_i h
        have := (QM.value_range h).2
        omega
      · omega
    · omega
  · omega
theorem one_cur {pl : List QM.Prod} {nl : List MR.Mk} {s : EM.Ser} {q f : Int} {kn : Bool} (h : oneE pl nl s q f kn = 0) : ∃ c : Nat, c < 8 ∧ oneC pl nl s q f kn = (c : Int) := by
  have hc : QM.checkE (firstP pl s.prod).1 = 0 := by
    unfold oneE at h
    split at h
    · cases h
    · split at h
      · cases h
      · exact Classical.byContradiction fun hn => hn ((VM.car_bad hn).1 ▸ h)
  have hcur := (QM.check_parts hc).2.1
  refine ⟨(firstP pl s.prod).1.cur.toNat, by omega, ?_⟩
  unfold oneC; rw [if_pos h]; omega
theorem itsP_in (m : VM.Mkt) (l : List PO.Pos) : ∀ x ∈ itsP m l, -9223372036854775808 ≤ x.n ∧ x.n ≤ 9223372036854775807 := by
  intro x hx
  obtain ⟨p, hp, hx⟩ := List.mem_flatMap.1 hx
  unfold itP at hx
  split at hx
  · rw [List.mem_singleton] at hx; subst hx; exact one_in _ _ _ _ _ _
  · cases hx
theorem itsL_in (m : VM.Mkt) (l : List NM.Leg) : ∀ x ∈ itsL m l, -9223372036854775808 ≤ x.n ∧ x.n ≤ 9223372036854775807 := by
  intro x hx
  obtain ⟨p, hp, hx⟩ := List.mem_flatMap.1 hx
  unfold itL at hx
  split at hx
  · rw [List.mem_singleton] at hx; subst hx; exact one_in _ _ _ _ _ _
  · cases hx
/-- Account -/
def accI (m : VM.Mkt) (hl : List PO.Pos) (ll : List NM.Leg) : List VM.It := itsP m hl ++ itsL m ll
def accE (m : VM.Mkt) (hl : List PO.Pos) (ll : List NM.Leg) : Int := if VM.askE m hl ll.length ≠ 0 then VM.askE m hl ll.length else if VM.fE (accI m hl ll) ≠ 0 then VM.fE (accI m hl ll) else VM.amE (VM.tS (accI m hl ll))
def accL (m : VM.Mkt) (hl : List PO.Pos) (ll : List NM.Leg) : List Int := if VM.askE m hl ll.length ≠ 0 then [] else if VM.fE (accI m hl ll) ≠ 0 then [] else VM.amL (VM.tS (accI m hl ll))
theorem ask_lens {m : VM.Mkt} {hl : List PO.Pos} {n : Nat} (h : VM.askE m hl n = 0) : hl.length ≤ 128 ∧ n ≤ 2048 := by
  unfold VM.askE at h
  split at h
  · rename_i g; exact absurd h g
  · split at h
    · rename_i g; exact absurd h g
    · rename_i g2
      have := (PO.check_inv (Classical.byContradiction fun hn => g2 hn)).1
      split at h
      · rename_i g; exact absurd h g
      · split at h
        · rename_i g; exact absurd h g
        · split at h
          · cases h
          · rename_i g; exact ⟨this, by omega⟩
end Go.Proofs.Ytagmknahmkniaaa

/- Contracts of layer 20: Account. -/
namespace Go.Proofs.Ytagmknahmkniaaa
open Go.RowKit Go.Recs
set_option linter.unusedVariables false
set_option linter.unusedSimpArgs false
theorem itsP_split (m : VM.Mkt) (l : List PO.Pos) (k : Nat) : itsP m l = itsP m (l.take k) ++ itsP m (l.drop k) := by
  unfold itsP; rw [← List.flatMap_append, List.take_append_drop]
theorem itsL_split (m : VM.Mkt) (l : List NM.Leg) (k : Nat) : itsL m l = itsL m (l.take k) ++ itsL m (l.drop k) := by
  unfold itsL; rw [← List.flatMap_append, List.take_append_drop]
theorem accP_stop {m : VM.Mkt} {hl : List PO.Pos} {ll : List NM.Leg} {k : Nat} (hk : k < hl.length) (h : VM.fE (itsP m (hl.take k)) = 0) {a b c : Int} (hp : itP m (PO.pAt hl k) = [⟨a, b, c⟩]) (ha : a ≠ 0) : VM.fE (accI m hl ll) = a := by
  unfold accI
  refine VM.fE_stop ?_ ha
  rw [itsP_split m hl (k + 1)]
  refine VM.fE_stop ?_ ha
  rw [itsP_succ m hk, VM.fE_snoc h, hp]
  simp only [VM.fE, ne_eq, ha, not_false_eq_true, if_true]
theorem accL_stop {m : VM.Mkt} {hl : List PO.Pos} {ll : List NM.Leg} {k : Nat} (hk : k < ll.length) (h0 : VM.fE (itsP m hl) = 0) (h : VM.fE (itsL m (ll.take k)) = 0) {a b c : Int} (hp : itL m (NM.lAt ll k) = [⟨a, b, c⟩]) (ha : a ≠ 0) : VM.fE (accI m hl ll) = a := by
  unfold accI
  rw [VM.fE_snoc h0, itsL_split m ll (k + 1)]
  refine VM.fE_stop ?_ ha
  rw [itsL_succ m hk, VM.fE_snoc h, hp]
  simp only [VM.fE, ne_eq, ha, not_false_eq_true, if_true]
theorem acc_ask {m : VM.Mkt} {hl : List PO.Pos} {ll : List NM.Leg} (h : VM.askE m hl ll.length ≠ 0) : accE m hl ll = VM.askE m hl ll.length ∧ accL m hl ll = [] := by
  unfold accE accL; rw [if_pos h, if_pos h]; exact ⟨rfl, rfl⟩
theorem acc_item {m : VM.Mkt} {hl : List PO.Pos} {ll : List NM.Leg} (h : VM.askE m hl ll.length = 0) {e : Int} (hf : VM.fE (accI m hl ll) = e) (he : e ≠ 0) : accE m hl ll = e ∧ accL m hl ll = [] := by
  have ha : ¬ VM.askE m hl ll.length ≠ 0 := by simp [h]
  have hb : VM.fE (accI m hl ll) ≠ 0 := by rw [hf]; exact he
  unfold accE accL; rw [if_neg ha, if_neg ha, if_pos hb, if_pos hb]; exact ⟨hf, rfl⟩
theorem acc_sum {m : VM.Mkt} {hl : List PO.Pos} {ll : List NM.Leg} (h : VM.askE m hl ll.length = 0) (hf : VM.fE (accI m hl ll) = 0) : accE m hl ll = VM.amE (VM.tS (accI m hl ll)) ∧ accL m hl ll = VM.amL (VM.tS (accI m hl ll)) := by
  have ha : ¬ VM.askE m hl ll.length ≠ 0 := by simp [h]
  have hb : ¬ VM.fE (accI m hl ll) ≠ 0 := by simp [hf]
  unfold accE accL; rw [if_neg ha, if_neg ha, if_neg hb, if_neg hb]; exact ⟨rfl, rfl⟩
theorem acc_bound {m : VM.Mkt} {hl : List PO.Pos} {ll : List NM.Leg} (h : VM.askE m hl ll.length = 0) (i : Nat) : -1267650600228229401496703205376 ≤ VM.tS (accI m hl ll) i ∧ VM.tS (accI m hl ll) i ≤ 1267650600228229401496703205376 := by
  have ⟨h1, h2⟩ := ask_lens h
  have a := itsP_len m hl
  have b := itsL_len m ll
  have := @VM.tS_bound (accI m hl ll) (fun x hx => by
    rcases List.mem_append.1 hx with hx | hx
    · exact itsP_in m hl x hx
    · exact itsL_in m ll x hx) i
  have hlen : (accI m hl ll).length ≤ 2176 := by unfold accI; rw [List.length_append]; omega
  omega
theorem PU.zero (w : World) : PU (w.alloc (.cells #[.int .u64 0, .int .u64 0, .int .u64 0, .int .u64 0, .int .u64 0, .int .u64 0, .int .u64 0, .int .u64 0, .int .u64 0, .int .u64 0, .int .u64 0, .int .u64 0, .int .u64 0, .int .u64 0, .int .u64 0, .int .u64 0] 99)) w.heap.size (VM.tS []) := by
  refine ⟨_, CB.new _ _ _, rfl, fun i hi => ⟨0, 0, ?_, ?_, ?_⟩⟩
  · rcases i with _ | _ | _ | _ | _ | _ | _ | _ | i <;> first | rfl | omega
  · rcases i with _ | _ | _ | _ | _ | _ | _ | _ | i <;> first | rfl | omega
  · rw [VM.tS_nil]
    exact VM.tot_zero
theorem own_low {w : World} {B B' : Nat} {v : Value} {zs : List Int} (h : Own w B v zs) (hB : B' ≤ B) : Own w B' v zs := by
  refine ⟨h.1, ?_⟩
  rcases h.2 with h | ⟨g, cp, cur, hv, hg, r⟩
  · exact .inl h
  · exact .inr ⟨g, cp, cur, hv, Nat.le_trans hB hg, r⟩
theorem itP_no {m : VM.Mkt} {x : PO.Pos} (h : ¬ x.ser.kind = 1) : itP m x = [] := by unfold itP; rw [if_neg h]
theorem itL_no {m : VM.Mkt} {x : NM.Leg} (h : ¬ x.ser.kind = 1) : itL m x = [] := by unfold itL; rw [if_neg h]
theorem fE_one (x : VM.It) : VM.fE [x] = x.e := by
  unfold VM.fE
  split
  · rfl
  · rename_i h; simp [VM.fE]; omega
set_option maxHeartbeats 8000000 in
set_option maxRecDepth 100000 in
theorem vaccount_any (m : VM.Mkt) (A : Option Addr) (hl : List PO.Pos) (hn hc : Nat) (hhn : hn = hl.length) (LA : Option Addr) (ll : List NM.Leg) (ln lc : Nat) (hln : ln = ll.length) (w : World) (hM : VM.MktAt w m) (hH : Poss w A hl) (hL : Legs w LA ll) :
    Calls Try.prog 40 #[.slice m.pa m.pl.length m.pc, .slice A hn hc, .slice LA ln lc, .slice m.ba m.bl.length m.bc, .slice m.na m.nl.length m.nc] w fun e w' => ∃ v, e = .returned (.tuple #[v, .int .i64 (accE m hl ll)]) ∧ Own w' w.heap.size v (accL m hl ll) ∧ Below w.heap.size w w' := by
  subst hhn hln
  have hHl := hH.len
  have hLl := hL.len
  have CK := Lib.hid (fun ww h1 h2 => vcheck_any m A hl hc LA ll.length lc (by omega) ww h1 h2)
  have CP := Lib.hid (fun x ww h => vposs_any m x (wrap64 (x.lo - x.sh)) rfl ww h)
  have CL := Lib.hid (fun y ww h => vlegs_any m y ww h)
  have CA := Lib.hid (fun g c ts n hc hn ww h => vadd_any g c ts n hc hn ww h)
  have CM2 := Lib.hid (fun (h : VM.askE m hl ll.length = 0) g ww hp => vamounts_any g (VM.tS (accI m hl ll)) (fun i _ => acc_bound h i) ww hp)
  have KA := Lib.hid (fun h => @acc_ask m hl ll h)
  have KI := Lib.hid (fun h e hf he => @acc_item m hl ll h e hf he)
  have KS := Lib.hid (fun h hf => @acc_sum m hl ll h hf)
  have KP := Lib.hid (fun k (hk : k < hl.length) h a b c hp ha => @accP_stop m hl ll k hk h a b c hp ha)
  have KL := Lib.hid (fun k (hk : k < ll.length) h0 h a b c hp ha => @accL_stop m hl ll k hk h0 h a b c hp ha)
  have KI0 : Hid (accI m hl ll = itsP m hl ++ itsL m ll) := Lib.hid rfl
  have HB0 := Lib.hid (below_al (Below.refl w.heap.size w) (.cells (mktC m) 93))
  have HX0 := Lib.hid (CB.new w 93 (mktC m))
  have bx0 := (Below.refl _ w).alloc (Nat.le_refl _) (.cells (mktC m) 93)
  have HM0 := Lib.hid (hM.below bx0)
  have HH0 := Lib.hid (hH.below bx0)
  have HL0 := Lib.hid (hL.below bx0)
  generalize hae : VM.askE m hl ll.length = ae at *
  generalize accE m hl ll = rE at *
  generalize accL m hl ll = rL at *
  obtain ⟨x0, x1, x2⟩ := mkt_cells HX0.out
  clear bx0 hM hH hL hae
  go_enter Try.func40, Try.ntmps40
  go_wp2_with fail
  generalize w.alloc (.cells (mktC m) 93) = u0 at *
  refine (CK.out _ HM0.out HH0.out).mono ?_
  rintro e w1 ⟨rfl, b1⟩
  have HB1 := Lib.hid b1
  have HUS := Lib.hid b1.size
  clear b1 x0 x1 x2 CK
  by_cases g1 : ae = 0
  · subst g1
    have CM3 := Lib.hid (fun g ww hp => CM2.out rfl g ww hp)
    have KI2 := Lib.hid (fun e hf he => KI.out rfl e hf he)
    have KS2 := Lib.hid (fun hf => KS.out rfl hf)
    clear KA KI KS CM2
    have HP1 := Lib.hid (PU.zero w1)
    have HBz := Lib.hid (below_al HB1.out (.cells #[.int .u64 0, .int .u64 0, .int .u64 0, .int .u64 0, .int .u64 0, .int .u64 0, .int .u64 0, .int .u64 0, .int .u64 0, .int .u64 0, .int .u64 0, .int .u64 0, .int .u64 0, .int .u64 0, .int .u64 0, .int .u64 0] 99))
    go_wp2_with fail
    generalize w1.alloc (.cells #[.int .u64 0, .int .u64 0, .int .u64 0, .int .u64 0, .int .u64 0, .int .u64 0, .int .u64 0, .int .u64 0, .int .u64 0, .int .u64 0, .int .u64 0, .int .u64 0, .int .u64 0, .int .u64 0, .int .u64 0, .int .u64 0] 99) = u1 at *
    generalize w1.heap.size = g at *
    go_loopw [10, 11, 16, 17, 18, 19, 38] (fun _ _ _ _ _ _ i wr => ∃ k : Nat, k ≤ hl.length ∧ i = .int .i64 (k : Int) ∧ Hid (VM.fE (itsP m (hl.take k)) = 0) ∧ Hid (PU wr g (VM.tS (itsP m (hl.take k)))) ∧ Hid (Below u0.heap.size u0 wr)) (fun _ _ _ _ _ _ i _ => hl.length - (intOf i).toNat)
    case atStart => exact ⟨0, by omega, rfl, Lib.hid rfl, HP1, HBz⟩
    case round =>
      obtain ⟨k, hk, rfl, HF, HP, HB⟩ := hrel
      by_cases hlt : k < hl.length
      · obtain ⟨b, off, x, rfl, hb, HV, q, d0, d1, d2, d3, d4, d5⟩ := poss_get (HH0.out.below HB.out) hlt
        have HKP := Lib.hid (KP.out k hlt HF.out)
        have HTS := Lib.hid (itsP_succ m hlt)
        rw [HV.out] at HKP HTS
        have HBx := Lib.hid (below_al HB.out (.cells (posC x) 80))
        have HX := Lib.hid (CB.new wr 80 (posC x))
        have HPx := Lib.hid (HP.out.below ((Below.refl _ wr).alloc (Nat.le_refl _) (.cells (posC x) 80)))
        clear q HV
        by_cases hkd : x.ser.kind = 1
        · have hkd2 : (x.ser.kind != 1) = false := by simpa using hkd
          have HXm := Lib.hid (HX0.out.below HBx.out HX0.out.lt)
          have C := Lib.hid (CP.out x _ (HM0.out.below HBx.out))
          have HIT : Hid (itP m x = [⟨_, _, _⟩]) := Lib.hid (by unfold itP; rw [if_pos hkd])
          have HCU := Lib.hid (fun h => @one_cur m.pl m.nl x.ser (wrap64 (x.lo - x.sh)) (MR.findN m.bl x.ser) (MR.findB m.bl x.ser) h)
          have HNN := Lib.hid (one_in m.pl m.nl x.ser (wrap64 (x.lo - x.sh)) (MR.findN m.bl x.ser) (MR.findB m.bl x.ser))
          obtain ⟨x0, x1, x2⟩ := mkt_cells HXm.out
          generalize oneE m.pl m.nl x.ser (wrap64 (x.lo - x.sh)) (MR.findN m.bl x.ser) (MR.findB m.bl x.ser) = oe at *
          generalize oneN m.pl m.nl x.ser (wrap64 (x.lo - x.sh)) (MR.findN m.bl x.ser) (MR.findB m.bl x.ser) = on at *
          generalize oneC m.pl m.nl x.ser (wrap64 (x.lo - x.sh)) (MR.findN m.bl x.ser) (MR.findB m.bl x.ser) = oc at *
          have HKP := Lib.hid (HKP.out _ _ _ HIT.out)
          clear hkd
          by_cases ho : oe = 0
          · subst ho
            obtain ⟨c, hc8, rfl⟩ := HCU.out rfl
            have HTn : Hid (putT (VM.tS (itsP m (hl.take k))) c on = VM.tS (itsP m (hl.take (k + 1)))) := Lib.hid (by rw [HTS.out, HIT.out]; exact putT_one _ ⟨0, (c : Int), on⟩ c rfl)
            have HFn : Hid (VM.fE (itsP m (hl.take (k + 1))) = 0) := Lib.hid (by rw [HTS.out, HIT.out, VM.fE_snoc HF.out, fE_one])
            have C2 := Lib.hid (fun ww h => CA.out g c (VM.tS (itsP m (hl.take k))) on hc8 HNN.out ww h)
            go_wp2_with fail
            refine C.out.mono ?_
            rintro e w5 ⟨rfl, b5⟩
            have HB5 := Lib.hid (HBx.out.trans (b5.mono HBx.out.size))
            have HP5 := Lib.hid (HPx.out.below b5)
            clear b5 x0 x1 x2
            go_wp2_with fail
            refine (C2.out _ HP5.out).mono ?_
            rintro e w6 ⟨⟨r6, rfl⟩, p6, b6⟩
            have HB6 := Lib.hid (HB5.out.trans (b6.below HUS.out HB5.out.size))
            have HP6 : Hid (PU w6 g (VM.tS (itsP m (hl.take (k + 1))))) := Lib.hid (by rw [← HTn.out]; exact p6)
            clear b6 p6
            go_wp2_with fail
            go_roundw
            case rel => exact ⟨k + 1, by omega, by go_num, HFn, HP6, HB6⟩
            case measure => simp [intOf]; omega
          · have HR := Lib.hid (KI2.out _ (HKP.out ho) ho)
            have hd : (oe != 0) = true := by simpa using ho
            clear ho
            go_wp2_with fail
            refine C.out.mono ?_
            rintro e w5 ⟨rfl, b5⟩
            have HB5 := Lib.hid (HBx.out.trans (b5.mono HBx.out.size))
            clear b5 x0 x1 x2
            go_wp2_with fail
            go_ret2
            exact ⟨_, by rw [HR.out.1]; rfl, by rw [HR.out.2]; exact Own.nil _ _, HB0.out.trans (HB5.out.mono HB0.out.size)⟩
        · have hkd2 : (x.ser.kind != 1) = true := by simpa using hkd
          have HPn : Hid (PU (wr.alloc (.cells (posC x) 80)) g (VM.tS (itsP m (hl.take (k + 1))))) := Lib.hid (by rw [HTS.out, itP_no hkd, List.append_nil]; exact HPx.out)
          have HFn : Hid (VM.fE (itsP m (hl.take (k + 1))) = 0) := Lib.hid (by rw [HTS.out, itP_no hkd, List.append_nil]; exact HF.out)
          clear hkd
          go_wp2_with fail
          go_roundw
          case rel => exact ⟨k + 1, by omega, by go_num, HFn, HPn, HBx⟩
          case measure => simp [intOf]; omega
      · obtain rfl : k = hl.length := by omega
        rw [List.take_length] at HF HP
        have HLe := Lib.hid (fun k (hk : k < ll.length) h a b c => KL.out k hk HF.out h a b c)
        clear KP KL CP
        go_wp2_with fail
        generalize wr = wq at *
        have HP2 : Hid (PU wq g (VM.tS (itsP m hl ++ itsL m (ll.take 0)))) := Lib.hid (by rw [show itsL m (ll.take 0) = [] from rfl, List.append_nil]; exact HP.out)
        have HB2 := Lib.hid HB.out
        clear HP HB
        go_loopw [10, 11, 21, 22, 23, 24, 62] (fun _ _ _ _ _ _ i wz => ∃ k : Nat, k ≤ ll.length ∧ i = .int .i64 (k : Int) ∧ Hid (VM.fE (itsL m (ll.take k)) = 0) ∧ Hid (PU wz g (VM.tS (itsP m hl ++ itsL m (ll.take k)))) ∧ Hid (Below u0.heap.size u0 wz)) (fun _ _ _ _ _ _ i _ => ll.length - (intOf i).toNat)
        case atStart => exact ⟨0, by omega, rfl, Lib.hid rfl, HP2, HB2⟩
        case round =>
          clear HP2 HB2
          obtain ⟨k, hk, rfl, HG, HP, HB⟩ := hrel
          by_cases hlt : k < ll.length
          · obtain ⟨b, off, y, rfl, hb, HV, q, d0, d1, d2, d3, d4, d5, d6, d7, d8⟩ := legs_get (HL0.out.below HB.out) hlt
            have HKP := Lib.hid (HLe.out k hlt HG.out)
            have HTS := Lib.hid (itsL_succ m hlt)
            rw [HV.out] at HKP HTS
            have HBx := Lib.hid (below_al HB.out (.cells (legC y) 58))
            have HX := Lib.hid (CB.new wr 58 (legC y))
            have HPx := Lib.hid (HP.out.below ((Below.refl _ wr).alloc (Nat.le_refl _) (.cells (legC y) 58)))
            clear q HV
            by_cases hkd : y.ser.kind = 1
            · have hkd2 : (y.ser.kind != 1) = false := by simpa using hkd
              have HXm := Lib.hid (HX0.out.below HBx.out HX0.out.lt)
              have C := Lib.hid (CL.out y _ (HM0.out.below HBx.out))
              have HIT : Hid (itL m y = [⟨_, _, _⟩]) := Lib.hid (by unfold itL; rw [if_pos hkd])
              have HCU := Lib.hid (fun h => @one_cur m.pl m.nl y.ser y.qty y.price true h)
              have HNN := Lib.hid (one_in m.pl m.nl y.ser y.qty y.price true)
              obtain ⟨x0, x1, x2⟩ := mkt_cells HXm.out
              generalize oneE m.pl m.nl y.ser y.qty y.price true = oe at *
              generalize oneN m.pl m.nl y.ser y.qty y.price true = on at *
              generalize oneC m.pl m.nl y.ser y.qty y.price true = oc at *
              have HKP := Lib.hid (HKP.out _ _ _ HIT.out)
              clear hkd
              by_cases ho : oe = 0
              · subst ho
                obtain ⟨c, hc8, rfl⟩ := HCU.out rfl
                have HTn : Hid (putT (VM.tS (itsP m hl ++ itsL m (ll.take k))) c on = VM.tS (itsP m hl ++ itsL m (ll.take (k + 1)))) := Lib.hid (by rw [HTS.out, HIT.out, ← List.append_assoc]; exact putT_one _ ⟨0, (c : Int), on⟩ c rfl)
                have HFn : Hid (VM.fE (itsL m (ll.take (k + 1))) = 0) := Lib.hid (by rw [HTS.out, HIT.out, VM.fE_snoc HG.out, fE_one])
                have C2 := Lib.hid (fun ww h => CA.out g c (VM.tS (itsP m hl ++ itsL m (ll.take k))) on hc8 HNN.out ww h)
                go_wp2_with fail
                refine C.out.mono ?_
                rintro e w5 ⟨rfl, b5⟩
                have HB5 := Lib.hid (HBx.out.trans (b5.mono HBx.out.size))
                have HP5 := Lib.hid (HPx.out.below b5)
                clear b5 x0 x1 x2
                go_wp2_with fail
                refine (C2.out _ HP5.out).mono ?_
                rintro e w6 ⟨⟨r6, rfl⟩, p6, b6⟩
                have HB6 := Lib.hid (HB5.out.trans (b6.below HUS.out HB5.out.size))
                have HP6 : Hid (PU w6 g (VM.tS (itsP m hl ++ itsL m (ll.take (k + 1))))) := Lib.hid (by rw [← HTn.out]; exact p6)
                clear b6 p6
                go_wp2_with fail
                go_roundw
                case rel => exact ⟨k + 1, by omega, by go_num, HFn, HP6, HB6⟩
                case measure => simp [intOf]; omega
              · have HR := Lib.hid (KI2.out _ (HKP.out ho) ho)
                have hd : (oe != 0) = true := by simpa using ho
                clear ho
                go_wp2_with fail
                refine C.out.mono ?_
                rintro e w5 ⟨rfl, b5⟩
                have HB5 := Lib.hid (HBx.out.trans (b5.mono HBx.out.size))
                clear b5 x0 x1 x2
                go_wp2_with fail
                go_ret2
                exact ⟨_, by rw [HR.out.1]; rfl, by rw [HR.out.2]; exact Own.nil _ _, HB0.out.trans (HB5.out.mono HB0.out.size)⟩
            · have hkd2 : (y.ser.kind != 1) = true := by simpa using hkd
              have HPn : Hid (PU (wr.alloc (.cells (legC y) 58)) g (VM.tS (itsP m hl ++ itsL m (ll.take (k + 1))))) := Lib.hid (by rw [HTS.out, itL_no hkd, List.append_nil]; exact HPx.out)
              have HFn : Hid (VM.fE (itsL m (ll.take (k + 1))) = 0) := Lib.hid (by rw [HTS.out, itL_no hkd, List.append_nil]; exact HG.out)
              clear hkd
              go_wp2_with fail
              go_roundw
              case rel => exact ⟨k + 1, by omega, by go_num, HFn, HPn, HBx⟩
              case measure => simp [intOf]; omega
          · obtain rfl : k = ll.length := by omega
            rw [List.take_length] at HG HP
            rw [← KI0.out] at HP
            have HR := Lib.hid (KS2.out (by rw [KI0.out, VM.fE_snoc HF.out]; exact HG.out))
            have C := Lib.hid (CM3.out g _ HP.out)
            generalize VM.amE (VM.tS (accI m hl ll)) = ame at *
            generalize VM.amL (VM.tS (accI m hl ll)) = aml at *
            go_wp2_with fail
            refine C.out.mono ?_
            rintro e w5 ⟨v, rfl, o5, b5⟩
            have HO5 := Lib.hid o5
            have HB5 := Lib.hid (HB.out.trans (b5.mono HB.out.size))
            clear o5 b5
            go_wp2_with fail
            go_ret2
            exact ⟨_, by rw [HR.out.1]; rfl, by rw [HR.out.2]; exact own_low HO5.out (Nat.le_trans HB0.out.size HB.out.size), HB0.out.trans (HB5.out.mono HB0.out.size)⟩
  · have HR := Lib.hid (KA.out g1)
    have hd : (ae != 0) = true := by simpa using g1
    clear g1 KA
    go_wp2_with fail
    go_ret2
    exact ⟨_, by rw [HR.out.1]; rfl, by rw [HR.out.2]; exact Own.nil _ _, HB0.out.trans (HB1.out.mono HB0.out.size)⟩
end Go.Proofs.Ytagmknahmkniaaa
