/- Put together: PosF, PosG, NovCells, LegBox, PosIter, PosCol. -/
import Derived.Test.YtdhkflmodcgooaaBun6
import Derived.Deep.RegionHeld3
import Derived.StillTailTactics
import Derived.Deep.Cut
import Derived.Test.YtdhkflmodcgooaaBun3
import Derived.Test.YtdhkflmodcgooaaBun5
import Derived.Test.YtdhkflmodcgooaaBun4
import Derived.RangeFuncNested
import Derived.RangeFuncBound
import Derived.RangeFuncCalls
import Derived.RangeFuncLeaves
import Derived.Shelf.Abstract
import Derived.Sort.MapsRangeIn
import Derived.WalkKit
import Derived.OwnWalkIn
import Derived.TacticsInMore
import Derived.RegionIn
import Derived.LoopNIn
import Derived.LoopIn
import Derived.RangeFuncBox
import Derived.Maps.AppendAt
/- Contracts of layer 15: a leg checked, set off, changed. -/
namespace Go.Proofs.Ytdhkflmodcgooaa
open Go.RowKit Go.Recs
set_option linter.unusedVariables false
set_option linter.unusedSimpArgs false
theorem abs_nn (n : Int) : 0 ≤ PO.absI n := by unfold PO.absI; split <;> omega
set_option maxHeartbeats 2000000 in
theorem pcheckleg_any (kind qty closes : Int) (w : World) : Calls Try.prog 53 #[.int .i64 kind, .int .i64 qty, .int .i64 closes] w fun e w' => e = .returned (.int .i64 (PO.legE kind qty closes)) ∧ w = w' := by
  have C1 := Lib.hid (fun ww => pkind15_any kind ww)
  have C2 := Lib.hid (fun ww => pwithin_any qty (-1048576) 1048576 ww)
  have C4 := Lib.hid (fun x ww => pwithin_any closes 0 x ww)
  by_cases hk : 1 ≤ kind ∧ kind ≤ 3
  · have e1 : (decide (1 ≤ kind) && decide (kind ≤ 3)) = true := by simp; omega
    rw [e1] at C1
    clear e1
    by_cases q0 : qty = 0
    · have hr : PO.legE kind qty closes = 18 := by unfold PO.legE; rw [if_neg (by omega), if_pos (.inl q0)]
      have c0 : (qty == 0) = true := beq_t q0
      rw [hr]
      clear hr q0 hk
      go_enter Try.func53, Try.ntmps53
      go_wp2_with fail
      refine (C1.out _).mono ?_
      rintro e w1 ⟨rfl, rfl⟩
      go_wp2_with fail
      go_ret
      exact ⟨rfl, rfl⟩
    have c0 : (qty == 0) = false := beq_f q0
    by_cases q1 : -1048576 ≤ qty ∧ qty ≤ 1048576
    · have e2 : (decide (-1048576 ≤ qty) && decide (qty ≤ 1048576)) = true := by simp; omega
      rw [e2] at C2
      have C3 := Lib.hid (fun ww => psize15_any qty q1.1 q1.2 ww)
      by_cases k3 : kind = 3
      · have c3 : (kind == 3) = true := beq_t k3
        have C5 := Lib.hid (fun ww => C4.out (PO.absI qty) ww)
        by_cases hc : 0 ≤ closes ∧ closes ≤ PO.absI qty
        · have hr : PO.legE kind qty closes = 0 := by unfold PO.legE; rw [if_neg (by omega), if_neg (by omega), if_neg (by omega)]
          have e3 : (decide (0 ≤ closes) && decide (closes ≤ PO.absI qty)) = true := by simp; omega
          rw [e3] at C5
          rw [hr]
          clear hr q0 hk e2 e3 hc k3 q1 C4
          generalize PO.absI qty = aq at *
          go_enter Try.func53, Try.ntmps53
          go_wp2_with fail
          refine (C1.out _).mono ?_
          rintro e w1 ⟨rfl, rfl⟩
          go_wp2_with fail
          refine (C2.out _).mono ?_
          rintro e w1 ⟨rfl, rfl⟩
          go_wp2_with fail
          refine (C3.out _).mono ?_
          rintro e w1 ⟨rfl, rfl⟩
          go_wp2_with fail
          refine (C5.out _).mono ?_
          rintro e w1 ⟨rfl, rfl⟩
          go_wp2_with fail
          go_ret
          exact ⟨rfl, rfl⟩
        · have hr : PO.legE kind qty closes = 18 := by unfold PO.legE; rw [if_neg (by omega), if_neg (by omega), if_pos ⟨k3, by omega⟩]
          have e3 : (decide (0 ≤ closes) && decide (closes ≤ PO.absI qty)) = false := by simp; omega
          rw [e3] at C5
          rw [hr]
          clear hr q0 hk e2 e3 hc k3 q1 C4
          generalize PO.absI qty = aq at *
          go_enter Try.func53, Try.ntmps53
          go_wp2_with fail
          refine (C1.out _).mono ?_
          rintro e w1 ⟨rfl, rfl⟩
          go_wp2_with fail
          refine (C2.out _).mono ?_
          rintro e w1 ⟨rfl, rfl⟩
          go_wp2_with fail
          refine (C3.out _).mono ?_
          rintro e w1 ⟨rfl, rfl⟩
          go_wp2_with fail
          refine (C5.out _).mono ?_
          rintro e w1 ⟨rfl, rfl⟩
          go_wp2_with fail
          go_ret
          exact ⟨rfl, rfl⟩
      · have c3 : (kind == 3) = false := beq_f k3
        have hr : PO.legE kind qty closes = 0 := by unfold PO.legE; rw [if_neg (by omega), if_neg (by omega), if_neg (fun h => k3 h.1)]
        rw [hr]
        clear hr q0 hk e2 k3 q1 C4
        go_enter Try.func53, Try.ntmps53
        go_wp2_with fail
        refine (C1.out _).mono ?_
        rintro e w1 ⟨rfl, rfl⟩
        go_wp2_with fail
        refine (C2.out _).mono ?_
        rintro e w1 ⟨rfl, rfl⟩
        go_wp2_with fail
        go_ret
        exact ⟨rfl, rfl⟩
    · have e2 : (decide (-1048576 ≤ qty) && decide (qty ≤ 1048576)) = false := by simp; omega
      rw [e2] at C2
      have hr : PO.legE kind qty closes = 18 := by unfold PO.legE; rw [if_neg (by omega), if_pos (by omega)]
      rw [hr]
      clear hr q0 hk e2 q1 C4
      go_enter Try.func53, Try.ntmps53
      go_wp2_with fail
      refine (C1.out _).mono ?_
      rintro e w1 ⟨rfl, rfl⟩
      go_wp2_with fail
      refine (C2.out _).mono ?_
      rintro e w1 ⟨rfl, rfl⟩
      go_wp2_with fail
      go_ret
      exact ⟨rfl, rfl⟩
  · have e1 : (decide (1 ≤ kind) && decide (kind ≤ 3)) = false := by simp; omega
    rw [e1] at C1
    have hr : PO.legE kind qty closes = 21 := by unfold PO.legE; rw [if_pos hk]
    rw [hr]
    clear hr hk e1
    go_enter Try.func53, Try.ntmps53
    go_wp2_with fail
    refine (C1.out _).mono ?_
    rintro e w1 ⟨rfl, rfl⟩
    go_wp2_with fail
    go_ret
    exact ⟨rfl, rfl⟩
set_option maxHeartbeats 2000000 in
theorem poffset_any (p : PO.Pos) (qty : Int) (h0 : ¬ qty = 0) (h1 : -1048576 ≤ qty) (h2 : qty ≤ 1048576) (w : World) :
    Calls Try.prog 56 #[posA p, .int .i64 qty] w fun e w' => e = .returned (.int .i64 (min (PO.absI qty) (PO.othS p qty))) ∧ Below w.heap.size w w' := by
  have HB0 := Lib.hid (below_al (Below.refl w.heap.size w) (.cells (posC p) 46))
  by_cases hq : 0 < qty
  · have e1 : PO.absI qty = qty := by unfold PO.absI; rw [if_neg (by omega)]
    have e2 : PO.othS p qty = p.sh := by unfold PO.othS; rw [if_neg (by omega)]
    rw [e1, e2]
    clear e1 e2 h0
    go_enter Try.func56, Try.ntmps56
    go_wp2_with fail
    go_ret
    exact ⟨rfl, HB0.out⟩
  · have e1 : PO.absI qty = -qty := by unfold PO.absI; rw [if_pos (by omega)]
    have e2 : PO.othS p qty = p.lo := by unfold PO.othS; rw [if_pos (by omega)]
    rw [e1, e2]
    clear e1 e2 h0
    go_enter Try.func56, Try.ntmps56
    go_wp2_with fail
    go_ret
    exact ⟨rfl, HB0.out⟩
theorem results_post {fn : Func} {p b : Tmp} (h : fn.results = #[.cell p 46, .tmp b]) (tmps : Array Value) (w : World) (g : Nat) (x : PO.Pos)
    (hp : tmps.getD p undef = .pointer (some ⟨g, 0, none⟩)) (hb : CB w g 46 (posC x)) : (results fn tmps).run Try.prog w = .ok (.tuple #[posA x, tmps.getD b undef]) w := by
  have e : (results fn tmps).run Try.prog w = ((asAddr (tmps.getD p undef)).run Try.prog w).andThen fun a w₁ => ((loadVar 46 a).run Try.prog w₁).andThen fun v w₂ => .ok (.tuple #[v, tmps.getD b undef]) w₂ := by
    simp only [results, h]
    simp [Sem.run_bind, Result.andThen]
  rw [e, hp]
  simp only [asAddr, Sem.run_pure, Result.andThen_ok]
  rw [load_pos w g x hb]
  rfl
end Go.Proofs.Ytdhkflmodcgooaa

/- Contracts of layer 15: a position changed. -/
namespace Go.Proofs.Ytdhkflmodcgooaa
open Go.RowKit Go.Recs
set_option linter.unusedVariables false
set_option linter.unusedSimpArgs false
def putP (w : World) (g : Nat) (x : PO.Pos) : World := (((((w.setCell ⟨g, 0, none⟩ (.string x.ser.prod)).setCell ⟨g, 1, none⟩ (.int .i64 x.ser.kind)).setCell ⟨g, 2, none⟩ (.int .i64 x.ser.expiry)).setCell ⟨g, 3, none⟩ (.int .i64 x.ser.strike)).setCell ⟨g, 4, none⟩ (.int .i64 x.lo)).setCell ⟨g, 5, none⟩ (.int .i64 x.sh)
theorem CB.putP {w : World} {g : Nat} {y : PO.Pos} (h : CB w g 46 (posC y)) (x : PO.Pos) : CB (Proofs.Ytdhkflmodcgooaa.putP w g x) g 46 (posC x) := by
  have := (((((h.set_ 0 (.string x.ser.prod)).set_ 1 (.int .i64 x.ser.kind)).set_ 2 (.int .i64 x.ser.expiry)).set_ 3 (.int .i64 x.ser.strike)).set_ 4 (.int .i64 x.lo)).set_ 5 (.int .i64 x.sh)
  unfold Proofs.Ytdhkflmodcgooaa.putP
  simpa using this
theorem putP_below {a w : World} {B g : Nat} (h : Below B a w) (hg : B ≤ g) (x : PO.Pos) : Below B a (putP w g x) :=
  (((((h.setCell (p := ⟨g, 0, none⟩) hg _).setCell (p := ⟨g, 1, none⟩) hg _).setCell (p := ⟨g, 2, none⟩) hg _).setCell (p := ⟨g, 3, none⟩) hg _).setCell (p := ⟨g, 4, none⟩) hg _).setCell (p := ⟨g, 5, none⟩) hg _
set_option maxHeartbeats 4000000 in
set_option maxRecDepth 100000 in
theorem pchanged_any (p : PO.Pos) (qty c : Int) (hp : (0 ≤ p.lo ∧ p.lo ≤ 1048576) ∧ 0 ≤ p.sh ∧ p.sh ≤ 1048576) (h0 : ¬ qty = 0) (h1 : -1048576 ≤ qty) (h2 : qty ≤ 1048576) (c1 : 0 ≤ c) (c2 : c ≤ PO.absI qty) (w : World) :
    Calls Try.prog 57 #[posA p, .int .i64 qty, .int .i64 c] w fun e w' => e = .returned (.tuple #[posA (if PO.chgE p qty c = 0 then PO.chg p qty c else PO.zero), .int .i64 (PO.chgE p qty c)]) ∧ Below w.heap.size w w' := by
  have HB0 := Lib.hid (fun (a b : Array Value) => below_al (below_al (Below.refl w.heap.size w) (.cells a 46)) (.cells b 46))
  have C1 := Lib.hid (fun ww => psize15_any qty h1 h2 ww)
  have CS := Lib.hid (fun ww => (psize15_any qty h1 h2 ww).mono (fun _ _ h => And.intro h.1 h.2.symm))
  obtain ⟨⟨l1, l2⟩, s1, s2⟩ := hp
  have a2 : PO.absI qty ≤ 1048576 := by unfold PO.absI; split <;> omega
  have a1 := abs_nn qty
  by_cases hq : qty < 0
  · have eo : PO.ownS p qty = p.sh := by unfold PO.ownS; rw [if_pos hq]
    have et : PO.othS p qty = p.lo := by unfold PO.othS; rw [if_pos hq]
    have ec : PO.chg p qty c = ⟨p.ser, p.lo - c, p.sh + (PO.absI qty - c)⟩ := by unfold PO.chg; rw [if_pos hq]
    by_cases ht : p.lo < c
    · have hr : PO.chgE p qty c = 30 := by unfold PO.chgE; rw [et, if_pos ht]
      rw [hr, if_neg (by decide)]
      have HR := Lib.hid (CB.new1 w (.cells (posC p) 46) 46 (posC PO.zero))
      clear hr eo et ec C1 CS
      go_enter Try.func57, Try.ntmps57
      go_wp2_with fail
      (try simp only [Exit.inBlock, Exit.then])
      exact bodyPost_ret (results_post (x := PO.zero) rfl _ _ _ rfl (by first | exact HR.out | exact CB.new1 _ _ _ _)) rfl ⟨rfl, HB0.out _ _⟩
    · have HX0 := Lib.hid ((CB.new w 46 (posC ⟨p.ser, p.lo - c, p.sh⟩)).alloc (.cells #[.string ⟨#[]⟩, .int .i64 0, .int .i64 0, .int .i64 0, .int .i64 0, .int .i64 0] 46))
      have HR0 := Lib.hid (CB.new1 w (.cells (posC ⟨p.ser, p.lo - c, p.sh⟩) 46) 46 #[.string ⟨#[]⟩, .int .i64 0, .int .i64 0, .int .i64 0, .int .i64 0, .int .i64 0])
      have HB1 := Lib.hid (HB0.out (posC ⟨p.ser, p.lo - c, p.sh⟩) #[.string ⟨#[]⟩, .int .i64 0, .int .i64 0, .int .i64 0, .int .i64 0, .int .i64 0])
      have HE : Hid (PO.chgE p qty c = if 1048576 < p.sh + (PO.absI qty - c) then 18 else 0) := Lib.hid (by unfold PO.chgE; rw [et, eo, if_neg ht])
      by_cases hb : 1048576 < p.sh + (PO.absI qty - c)
      · rw [HE.out, if_pos hb, if_neg (by decide)]
        clear eo et ec HE
        generalize PO.absI qty = aq at *
        go_enter Try.func57, Try.ntmps57
        go_wp2_with fail
        generalize (w.alloc (.cells #[.string p.ser.prod, .int .i64 p.ser.kind, .int .i64 p.ser.expiry, .int .i64 p.ser.strike, .int .i64 (p.lo - c), .int .i64 (p.sh)] 46)).alloc (.cells #[.string ⟨#[]⟩, .int .i64 0, .int .i64 0, .int .i64 0, .int .i64 0, .int .i64 0] 46) = w1 at *
        have xl := HX0.out.lt
        have x1 : w1.cell? ⟨w.heap.size, 5, none⟩ = some (.int .i64 p.sh) := HX0.out.cell 5
        have x2 : w1.frozen? ⟨w.heap.size, 5, none⟩ = false := HX0.out.frozen 5
        go_still_tail 9, (by kernel_rfl)
        still_call (CS.out _)
        repeat still_step
        refine wpStill_nil ?_
        change wpList _ _ _ _ _ w1.drew
        clear x1 x2
        have HX1 : Hid (CB w1.drew w.heap.size 46 (posC ⟨p.ser, p.lo - c, p.sh⟩)) := Lib.hid HX0.out
        have HR1 : Hid (CB w1.drew (w.heap.size + 1) 46 (posC PO.zero)) := Lib.hid HR0.out
        have HB3 : Hid (Below w.heap.size w w1.drew) := Lib.hid HB1.out.drew
        generalize w1.drew = w2 at *
        have HX2 : Hid (CB (w2.setCell ⟨w.heap.size, 5, none⟩ (.int .i64 (p.sh + (aq - c)))) w.heap.size 46 (posC ⟨p.ser, p.lo - c, p.sh + (aq - c)⟩)) := Lib.hid (HX1.out.set_ 5 (.int .i64 (p.sh + (aq - c))))
        have HR2 : Hid (CB (w2.setCell ⟨w.heap.size, 5, none⟩ (.int .i64 (p.sh + (aq - c)))) (w.heap.size + 1) 46 (posC PO.zero)) := Lib.hid (HR1.out.far (p := ⟨w.heap.size, 5, none⟩) (by show w.heap.size + 1 ≠ w.heap.size; omega) (.int .i64 (p.sh + (aq - c))))
        have HB2 : Hid (Below w.heap.size w (w2.setCell ⟨w.heap.size, 5, none⟩ (.int .i64 (p.sh + (aq - c))))) := Lib.hid (HB3.out.setCell (p := ⟨w.heap.size, 5, none⟩) (Nat.le_refl _) (.int .i64 (p.sh + (aq - c))))
        have x0 : w2.cell? ⟨w.heap.size, 5, none⟩ = some (.int .i64 p.sh) := HX1.out.cell 5
        have xf : w2.frozen? ⟨w.heap.size, 5, none⟩ = false := HX1.out.frozen 5
        have g1 : IntKind.i64.wrap (aq - c) = aq - c := IntWalk.i64_in _ (by omega)
        have g2 : IntKind.i64.wrap (p.sh + (aq - c)) = p.sh + (aq - c) := IntWalk.i64_in _ (by omega)
        have zl := HR1.out.lt
        go_upto_region 8 with ((go_at_call 86; refine (C1.out _).mono ?_; rintro e w5 ⟨rfl, rfl⟩))
        generalize w2.setCell ⟨w.heap.size, 5, none⟩ (.int .i64 (p.sh + (aq - c))) = w3 at *
        clear x0 xf
        have y0 : w3.cell? ⟨w.heap.size, 0, none⟩ = some (.string p.ser.prod) := HX2.out.cell 0
        have y1 : w3.cell? ⟨w.heap.size, 1, none⟩ = some (.int .i64 p.ser.kind) := HX2.out.cell 1
        have y2 : w3.cell? ⟨w.heap.size, 2, none⟩ = some (.int .i64 p.ser.expiry) := HX2.out.cell 2
        have y3 : w3.cell? ⟨w.heap.size, 3, none⟩ = some (.int .i64 p.ser.strike) := HX2.out.cell 3
        have y4 : w3.cell? ⟨w.heap.size, 4, none⟩ = some (.int .i64 (p.lo - c)) := HX2.out.cell 4
        have y5 : w3.cell? ⟨w.heap.size, 5, none⟩ = some (.int .i64 (p.sh + (aq - c))) := HX2.out.cell 5
        have yl := HX2.out.lt
        have z0 : w3.cell? ⟨w.heap.size + 1, 0, none⟩ = some (.string ⟨#[]⟩) := HR2.out.cell 0
        have z1 : w3.cell? ⟨w.heap.size + 1, 1, none⟩ = some (.int .i64 0) := HR2.out.cell 1
        have z2 : w3.cell? ⟨w.heap.size + 1, 2, none⟩ = some (.int .i64 0) := HR2.out.cell 2
        have z3 : w3.cell? ⟨w.heap.size + 1, 3, none⟩ = some (.int .i64 0) := HR2.out.cell 3
        have z4 : w3.cell? ⟨w.heap.size + 1, 4, none⟩ = some (.int .i64 0) := HR2.out.cell 4
        have z5 : w3.cell? ⟨w.heap.size + 1, 5, none⟩ = some (.int .i64 0) := HR2.out.cell 5
        have f0 := HR2.out.frozen 0
        have f1 := HR2.out.frozen 1
        have f2 := HR2.out.frozen 2
        have f3 := HR2.out.frozen 3
        have f4 := HR2.out.frozen 4
        have f5 := HR2.out.frozen 5
        go_wp2_with fail
        (try simp only [Exit.inBlock, Exit.then])
        have HR4 : Hid (CB ((((((w3.setCell ⟨w.heap.size + 1, 0, none⟩ (.string ⟨#[]⟩)).setCell ⟨w.heap.size + 1, 1, none⟩ (.int .i64 0)).setCell ⟨w.heap.size + 1, 2, none⟩ (.int .i64 0)).setCell ⟨w.heap.size + 1, 3, none⟩ (.int .i64 0)).setCell ⟨w.heap.size + 1, 4, none⟩ (.int .i64 0)).setCell ⟨w.heap.size + 1, 5, none⟩ (.int .i64 0)) (w.heap.size + 1) 46 (posC PO.zero)) := Lib.hid (HR2.out.putP PO.zero)
        have HB4 : Hid (Below w.heap.size w ((((((w3.setCell ⟨w.heap.size + 1, 0, none⟩ (.string ⟨#[]⟩)).setCell ⟨w.heap.size + 1, 1, none⟩ (.int .i64 0)).setCell ⟨w.heap.size + 1, 2, none⟩ (.int .i64 0)).setCell ⟨w.heap.size + 1, 3, none⟩ (.int .i64 0)).setCell ⟨w.heap.size + 1, 4, none⟩ (.int .i64 0)).setCell ⟨w.heap.size + 1, 5, none⟩ (.int .i64 0))) := Lib.hid (putP_below HB2.out (Nat.le_succ _) PO.zero)
        generalize (((((w3.setCell ⟨w.heap.size + 1, 0, none⟩ (.string ⟨#[]⟩)).setCell ⟨w.heap.size + 1, 1, none⟩ (.int .i64 0)).setCell ⟨w.heap.size + 1, 2, none⟩ (.int .i64 0)).setCell ⟨w.heap.size + 1, 3, none⟩ (.int .i64 0)).setCell ⟨w.heap.size + 1, 4, none⟩ (.int .i64 0)).setCell ⟨w.heap.size + 1, 5, none⟩ (.int .i64 0) = w4 at *
        exact bodyPost_ret (results_post (x := PO.zero) rfl _ _ _ rfl HR4.out) rfl ⟨rfl, HB4.out⟩
      · rw [HE.out, if_neg hb, if_pos rfl, ec]
        clear eo et ec HE
        generalize PO.absI qty = aq at *
        go_enter Try.func57, Try.ntmps57
        go_wp2_with fail
        generalize (w.alloc (.cells #[.string p.ser.prod, .int .i64 p.ser.kind, .int .i64 p.ser.expiry, .int .i64 p.ser.strike, .int .i64 (p.lo - c), .int .i64 (p.sh)] 46)).alloc (.cells #[.string ⟨#[]⟩, .int .i64 0, .int .i64 0, .int .i64 0, .int .i64 0, .int .i64 0] 46) = w1 at *
        have xl := HX0.out.lt
        have x1 : w1.cell? ⟨w.heap.size, 5, none⟩ = some (.int .i64 p.sh) := HX0.out.cell 5
        have x2 : w1.frozen? ⟨w.heap.size, 5, none⟩ = false := HX0.out.frozen 5
        go_still_tail 9, (by kernel_rfl)
        still_call (CS.out _)
        repeat still_step
        refine wpStill_nil ?_
        change wpList _ _ _ _ _ w1.drew
        clear x1 x2
        have HX1 : Hid (CB w1.drew w.heap.size 46 (posC ⟨p.ser, p.lo - c, p.sh⟩)) := Lib.hid HX0.out
        have HR1 : Hid (CB w1.drew (w.heap.size + 1) 46 (posC PO.zero)) := Lib.hid HR0.out
        have HB3 : Hid (Below w.heap.size w w1.drew) := Lib.hid HB1.out.drew
        generalize w1.drew = w2 at *
        have HX2 : Hid (CB (w2.setCell ⟨w.heap.size, 5, none⟩ (.int .i64 (p.sh + (aq - c)))) w.heap.size 46 (posC ⟨p.ser, p.lo - c, p.sh + (aq - c)⟩)) := Lib.hid (HX1.out.set_ 5 (.int .i64 (p.sh + (aq - c))))
        have HR2 : Hid (CB (w2.setCell ⟨w.heap.size, 5, none⟩ (.int .i64 (p.sh + (aq - c)))) (w.heap.size + 1) 46 (posC PO.zero)) := Lib.hid (HR1.out.far (p := ⟨w.heap.size, 5, none⟩) (by show w.heap.size + 1 ≠ w.heap.size; omega) (.int .i64 (p.sh + (aq - c))))
        have HB2 : Hid (Below w.heap.size w (w2.setCell ⟨w.heap.size, 5, none⟩ (.int .i64 (p.sh + (aq - c))))) := Lib.hid (HB3.out.setCell (p := ⟨w.heap.size, 5, none⟩) (Nat.le_refl _) (.int .i64 (p.sh + (aq - c))))
        have x0 : w2.cell? ⟨w.heap.size, 5, none⟩ = some (.int .i64 p.sh) := HX1.out.cell 5
        have xf : w2.frozen? ⟨w.heap.size, 5, none⟩ = false := HX1.out.frozen 5
        have g1 : IntKind.i64.wrap (aq - c) = aq - c := IntWalk.i64_in _ (by omega)
        have g2 : IntKind.i64.wrap (p.sh + (aq - c)) = p.sh + (aq - c) := IntWalk.i64_in _ (by omega)
        have zl := HR1.out.lt
        go_upto_region 8 with ((go_at_call 86; refine (C1.out _).mono ?_; rintro e w5 ⟨rfl, rfl⟩))
        generalize w2.setCell ⟨w.heap.size, 5, none⟩ (.int .i64 (p.sh + (aq - c))) = w3 at *
        clear x0 xf
        have y0 : w3.cell? ⟨w.heap.size, 0, none⟩ = some (.string p.ser.prod) := HX2.out.cell 0
        have y1 : w3.cell? ⟨w.heap.size, 1, none⟩ = some (.int .i64 p.ser.kind) := HX2.out.cell 1
        have y2 : w3.cell? ⟨w.heap.size, 2, none⟩ = some (.int .i64 p.ser.expiry) := HX2.out.cell 2
        have y3 : w3.cell? ⟨w.heap.size, 3, none⟩ = some (.int .i64 p.ser.strike) := HX2.out.cell 3
        have y4 : w3.cell? ⟨w.heap.size, 4, none⟩ = some (.int .i64 (p.lo - c)) := HX2.out.cell 4
        have y5 : w3.cell? ⟨w.heap.size, 5, none⟩ = some (.int .i64 (p.sh + (aq - c))) := HX2.out.cell 5
        have yl := HX2.out.lt
        have z0 : w3.cell? ⟨w.heap.size + 1, 0, none⟩ = some (.string ⟨#[]⟩) := HR2.out.cell 0
        have z1 : w3.cell? ⟨w.heap.size + 1, 1, none⟩ = some (.int .i64 0) := HR2.out.cell 1
        have z2 : w3.cell? ⟨w.heap.size + 1, 2, none⟩ = some (.int .i64 0) := HR2.out.cell 2
        have z3 : w3.cell? ⟨w.heap.size + 1, 3, none⟩ = some (.int .i64 0) := HR2.out.cell 3
        have z4 : w3.cell? ⟨w.heap.size + 1, 4, none⟩ = some (.int .i64 0) := HR2.out.cell 4
        have z5 : w3.cell? ⟨w.heap.size + 1, 5, none⟩ = some (.int .i64 0) := HR2.out.cell 5
        have f0 := HR2.out.frozen 0
        have f1 := HR2.out.frozen 1
        have f2 := HR2.out.frozen 2
        have f3 := HR2.out.frozen 3
        have f4 := HR2.out.frozen 4
        have f5 := HR2.out.frozen 5
        go_wp2_with fail
        (try simp only [Exit.inBlock, Exit.then])
        have HR4 : Hid (CB ((((((w3.setCell ⟨w.heap.size + 1, 0, none⟩ (.string p.ser.prod)).setCell ⟨w.heap.size + 1, 1, none⟩ (.int .i64 p.ser.kind)).setCell ⟨w.heap.size + 1, 2, none⟩ (.int .i64 p.ser.expiry)).setCell ⟨w.heap.size + 1, 3, none⟩ (.int .i64 p.ser.strike)).setCell ⟨w.heap.size + 1, 4, none⟩ (.int .i64 (p.lo - c))).setCell ⟨w.heap.size + 1, 5, none⟩ (.int .i64 (p.sh + (aq - c)))) (w.heap.size + 1) 46 (posC ⟨p.ser, p.lo - c, p.sh + (aq - c)⟩)) := Lib.hid (HR2.out.putP ⟨p.ser, p.lo - c, p.sh + (aq - c)⟩)
        have HB4 : Hid (Below w.heap.size w ((((((w3.setCell ⟨w.heap.size + 1, 0, none⟩ (.string p.ser.prod)).setCell ⟨w.heap.size + 1, 1, none⟩ (.int .i64 p.ser.kind)).setCell ⟨w.heap.size + 1, 2, none⟩ (.int .i64 p.ser.expiry)).setCell ⟨w.heap.size + 1, 3, none⟩ (.int .i64 p.ser.strike)).setCell ⟨w.heap.size + 1, 4, none⟩ (.int .i64 (p.lo - c))).setCell ⟨w.heap.size + 1, 5, none⟩ (.int .i64 (p.sh + (aq - c))))) := Lib.hid (putP_below HB2.out (Nat.le_succ _) ⟨p.ser, p.lo - c, p.sh + (aq - c)⟩)
        generalize (((((w3.setCell ⟨w.heap.size + 1, 0, none⟩ (.string p.ser.prod)).setCell ⟨w.heap.size + 1, 1, none⟩ (.int .i64 p.ser.kind)).setCell ⟨w.heap.size + 1, 2, none⟩ (.int .i64 p.ser.expiry)).setCell ⟨w.heap.size + 1, 3, none⟩ (.int .i64 p.ser.strike)).setCell ⟨w.heap.size + 1, 4, none⟩ (.int .i64 (p.lo - c))).setCell ⟨w.heap.size + 1, 5, none⟩ (.int .i64 (p.sh + (aq - c))) = w4 at *
        exact bodyPost_ret (results_post (x := ⟨p.ser, p.lo - c, p.sh + (aq - c)⟩) rfl _ _ _ rfl HR4.out) rfl ⟨rfl, HB4.out⟩
  · have eo : PO.ownS p qty = p.lo := by unfold PO.ownS; rw [if_neg hq]
    have et : PO.othS p qty = p.sh := by unfold PO.othS; rw [if_neg hq]
    have ec : PO.chg p qty c = ⟨p.ser, p.lo + (PO.absI qty - c), p.sh - c⟩ := by unfold PO.chg; rw [if_neg hq]
    by_cases ht : p.sh < c
    · have hr : PO.chgE p qty c = 30 := by unfold PO.chgE; rw [et, if_pos ht]
      rw [hr, if_neg (by decide)]
      have HR := Lib.hid (CB.new1 w (.cells (posC p) 46) 46 (posC PO.zero))
      clear hr eo et ec C1 CS
      go_enter Try.func57, Try.ntmps57
      go_wp2_with fail
      (try simp only [Exit.inBlock, Exit.then])
      exact bodyPost_ret (results_post (x := PO.zero) rfl _ _ _ rfl (by first | exact HR.out | exact CB.new1 _ _ _ _)) rfl ⟨rfl, HB0.out _ _⟩
    · have HX0 := Lib.hid ((CB.new w 46 (posC ⟨p.ser, p.lo, p.sh - c⟩)).alloc (.cells #[.string ⟨#[]⟩, .int .i64 0, .int .i64 0, .int .i64 0, .int .i64 0, .int .i64 0] 46))
      have HR0 := Lib.hid (CB.new1 w (.cells (posC ⟨p.ser, p.lo, p.sh - c⟩) 46) 46 #[.string ⟨#[]⟩, .int .i64 0, .int .i64 0, .int .i64 0, .int .i64 0, .int .i64 0])
      have HB1 := Lib.hid (HB0.out (posC ⟨p.ser, p.lo, p.sh - c⟩) #[.string ⟨#[]⟩, .int .i64 0, .int .i64 0, .int .i64 0, .int .i64 0, .int .i64 0])
      have HE : Hid (PO.chgE p qty c = if 1048576 < p.lo + (PO.absI qty - c) then 18 else 0) := Lib.hid (by unfold PO.chgE; rw [et, eo, if_neg ht])
      by_cases hb : 1048576 < p.lo + (PO.absI qty - c)
      · rw [HE.out, if_pos hb, if_neg (by decide)]
        clear eo et ec HE
        generalize PO.absI qty = aq at *
        go_enter Try.func57, Try.ntmps57
        go_wp2_with fail
        generalize (w.alloc (.cells #[.string p.ser.prod, .int .i64 p.ser.kind, .int .i64 p.ser.expiry, .int .i64 p.ser.strike, .int .i64 (p.lo), .int .i64 (p.sh - c)] 46)).alloc (.cells #[.string ⟨#[]⟩, .int .i64 0, .int .i64 0, .int .i64 0, .int .i64 0, .int .i64 0] 46) = w1 at *
        have xl := HX0.out.lt
        have x1 : w1.cell? ⟨w.heap.size, 4, none⟩ = some (.int .i64 p.lo) := HX0.out.cell 4
        have x2 : w1.frozen? ⟨w.heap.size, 4, none⟩ = false := HX0.out.frozen 4
        go_still_tail 9, (by kernel_rfl)
        still_call (CS.out _)
        repeat still_step
        refine wpStill_nil ?_
        change wpList _ _ _ _ _ w1.drew
        clear x1 x2
        have HX1 : Hid (CB w1.drew w.heap.size 46 (posC ⟨p.ser, p.lo, p.sh - c⟩)) := Lib.hid HX0.out
        have HR1 : Hid (CB w1.drew (w.heap.size + 1) 46 (posC PO.zero)) := Lib.hid HR0.out
        have HB3 : Hid (Below w.heap.size w w1.drew) := Lib.hid HB1.out.drew
        generalize w1.drew = w2 at *
        have HX2 : Hid (CB (w2.setCell ⟨w.heap.size, 4, none⟩ (.int .i64 (p.lo + (aq - c)))) w.heap.size 46 (posC ⟨p.ser, p.lo + (aq - c), p.sh - c⟩)) := Lib.hid (HX1.out.set_ 4 (.int .i64 (p.lo + (aq - c))))
        have HR2 : Hid (CB (w2.setCell ⟨w.heap.size, 4, none⟩ (.int .i64 (p.lo + (aq - c)))) (w.heap.size + 1) 46 (posC PO.zero)) := Lib.hid (HR1.out.far (p := ⟨w.heap.size, 4, none⟩) (by show w.heap.size + 1 ≠ w.heap.size; omega) (.int .i64 (p.lo + (aq - c))))
        have HB2 : Hid (Below w.heap.size w (w2.setCell ⟨w.heap.size, 4, none⟩ (.int .i64 (p.lo + (aq - c))))) := Lib.hid (HB3.out.setCell (p := ⟨w.heap.size, 4, none⟩) (Nat.le_refl _) (.int .i64 (p.lo + (aq - c))))
        have x0 : w2.cell? ⟨w.heap.size, 4, none⟩ = some (.int .i64 p.lo) := HX1.out.cell 4
        have xf : w2.frozen? ⟨w.heap.size, 4, none⟩ = false := HX1.out.frozen 4
        have g1 : IntKind.i64.wrap (aq - c) = aq - c := IntWalk.i64_in _ (by omega)
        have g2 : IntKind.i64.wrap (p.lo + (aq - c)) = p.lo + (aq - c) := IntWalk.i64_in _ (by omega)
        have zl := HR1.out.lt
        go_upto_region 8 with ((go_at_call 86; refine (C1.out _).mono ?_; rintro e w5 ⟨rfl, rfl⟩))
        generalize w2.setCell ⟨w.heap.size, 4, none⟩ (.int .i64 (p.lo + (aq - c))) = w3 at *
        clear x0 xf
        have y0 : w3.cell? ⟨w.heap.size, 0, none⟩ = some (.string p.ser.prod) := HX2.out.cell 0
        have y1 : w3.cell? ⟨w.heap.size, 1, none⟩ = some (.int .i64 p.ser.kind) := HX2.out.cell 1
        have y2 : w3.cell? ⟨w.heap.size, 2, none⟩ = some (.int .i64 p.ser.expiry) := HX2.out.cell 2
        have y3 : w3.cell? ⟨w.heap.size, 3, none⟩ = some (.int .i64 p.ser.strike) := HX2.out.cell 3
        have y4 : w3.cell? ⟨w.heap.size, 4, none⟩ = some (.int .i64 (p.lo + (aq - c))) := HX2.out.cell 4
        have y5 : w3.cell? ⟨w.heap.size, 5, none⟩ = some (.int .i64 (p.sh - c)) := HX2.out.cell 5
        have yl := HX2.out.lt
        have z0 : w3.cell? ⟨w.heap.size + 1, 0, none⟩ = some (.string ⟨#[]⟩) := HR2.out.cell 0
        have z1 : w3.cell? ⟨w.heap.size + 1, 1, none⟩ = some (.int .i64 0) := HR2.out.cell 1
        have z2 : w3.cell? ⟨w.heap.size + 1, 2, none⟩ = some (.int .i64 0) := HR2.out.cell 2
        have z3 : w3.cell? ⟨w.heap.size + 1, 3, none⟩ = some (.int .i64 0) := HR2.out.cell 3
        have z4 : w3.cell? ⟨w.heap.size + 1, 4, none⟩ = some (.int .i64 0) := HR2.out.cell 4
        have z5 : w3.cell? ⟨w.heap.size + 1, 5, none⟩ = some (.int .i64 0) := HR2.out.cell 5
        have f0 := HR2.out.frozen 0
        have f1 := HR2.out.frozen 1
        have f2 := HR2.out.frozen 2
        have f3 := HR2.out.frozen 3
        have f4 := HR2.out.frozen 4
        have f5 := HR2.out.frozen 5
        go_wp2_with fail
        (try simp only [Exit.inBlock, Exit.then])
        have HR4 : Hid (CB ((((((w3.setCell ⟨w.heap.size + 1, 0, none⟩ (.string ⟨#[]⟩)).setCell ⟨w.heap.size + 1, 1, none⟩ (.int .i64 0)).setCell ⟨w.heap.size + 1, 2, none⟩ (.int .i64 0)).setCell ⟨w.heap.size + 1, 3, none⟩ (.int .i64 0)).setCell ⟨w.heap.size + 1, 4, none⟩ (.int .i64 0)).setCell ⟨w.heap.size + 1, 5, none⟩ (.int .i64 0)) (w.heap.size + 1) 46 (posC PO.zero)) := Lib.hid (HR2.out.putP PO.zero)
        have HB4 : Hid (Below w.heap.size w ((((((w3.setCell ⟨w.heap.size + 1, 0, none⟩ (.string ⟨#[]⟩)).setCell ⟨w.heap.size + 1, 1, none⟩ (.int .i64 0)).setCell ⟨w.heap.size + 1, 2, none⟩ (.int .i64 0)).setCell ⟨w.heap.size + 1, 3, none⟩ (.int .i64 0)).setCell ⟨w.heap.size + 1, 4, none⟩ (.int .i64 0)).setCell ⟨w.heap.size + 1, 5, none⟩ (.int .i64 0))) := Lib.hid (putP_below HB2.out (Nat.le_succ _) PO.zero)
        generalize (((((w3.setCell ⟨w.heap.size + 1, 0, none⟩ (.string ⟨#[]⟩)).setCell ⟨w.heap.size + 1, 1, none⟩ (.int .i64 0)).setCell ⟨w.heap.size + 1, 2, none⟩ (.int .i64 0)).setCell ⟨w.heap.size + 1, 3, none⟩ (.int .i64 0)).setCell ⟨w.heap.size + 1, 4, none⟩ (.int .i64 0)).setCell ⟨w.heap.size + 1, 5, none⟩ (.int .i64 0) = w4 at *
        exact bodyPost_ret (results_post (x := PO.zero) rfl _ _ _ rfl HR4.out) rfl ⟨rfl, HB4.out⟩
      · rw [HE.out, if_neg hb, if_pos rfl, ec]
        clear eo et ec HE
        generalize PO.absI qty = aq at *
        go_enter Try.func57, Try.ntmps57
        go_wp2_with fail
        generalize (w.alloc (.cells #[.string p.ser.prod, .int .i64 p.ser.kind, .int .i64 p.ser.expiry, .int .i64 p.ser.strike, .int .i64 (p.lo), .int .i64 (p.sh - c)] 46)).alloc (.cells #[.string ⟨#[]⟩, .int .i64 0, .int .i64 0, .int .i64 0, .int .i64 0, .int .i64 0] 46) = w1 at *
        have xl := HX0.out.lt
        have x1 : w1.cell? ⟨w.heap.size, 4, none⟩ = some (.int .i64 p.lo) := HX0.out.cell 4
        have x2 : w1.frozen? ⟨w.heap.size, 4, none⟩ = false := HX0.out.frozen 4
        go_still_tail 9, (by kernel_rfl)
        still_call (CS.out _)
        repeat still_step
        refine wpStill_nil ?_
        change wpList _ _ _ _ _ w1.drew
        clear x1 x2
        have HX1 : Hid (CB w1.drew w.heap.size 46 (posC ⟨p.ser, p.lo, p.sh - c⟩)) := Lib.hid HX0.out
        have HR1 : Hid (CB w1.drew (w.heap.size + 1) 46 (posC PO.zero)) := Lib.hid HR0.out
        have HB3 : Hid (Below w.heap.size w w1.drew) := Lib.hid HB1.out.drew
        generalize w1.drew = w2 at *
        have HX2 : Hid (CB (w2.setCell ⟨w.heap.size, 4, none⟩ (.int .i64 (p.lo + (aq - c)))) w.heap.size 46 (posC ⟨p.ser, p.lo + (aq - c), p.sh - c⟩)) := Lib.hid (HX1.out.set_ 4 (.int .i64 (p.lo + (aq - c))))
        have HR2 : Hid (CB (w2.setCell ⟨w.heap.size, 4, none⟩ (.int .i64 (p.lo + (aq - c)))) (w.heap.size + 1) 46 (posC PO.zero)) := Lib.hid (HR1.out.far (p := ⟨w.heap.size, 4, none⟩) (by show w.heap.size + 1 ≠ w.heap.size; omega) (.int .i64 (p.lo + (aq - c))))
        have HB2 : Hid (Below w.heap.size w (w2.setCell ⟨w.heap.size, 4, none⟩ (.int .i64 (p.lo + (aq - c))))) := Lib.hid (HB3.out.setCell (p := ⟨w.heap.size, 4, none⟩) (Nat.le_refl _) (.int .i64 (p.lo + (aq - c))))
        have x0 : w2.cell? ⟨w.heap.size, 4, none⟩ = some (.int .i64 p.lo) := HX1.out.cell 4
        have xf : w2.frozen? ⟨w.heap.size, 4, none⟩ = false := HX1.out.frozen 4
        have g1 : IntKind.i64.wrap (aq - c) = aq - c := IntWalk.i64_in _ (by omega)
        have g2 : IntKind.i64.wrap (p.lo + (aq - c)) = p.lo + (aq - c) := IntWalk.i64_in _ (by omega)
        have zl := HR1.out.lt
        go_upto_region 8 with ((go_at_call 86; refine (C1.out _).mono ?_; rintro e w5 ⟨rfl, rfl⟩))
        generalize w2.setCell ⟨w.heap.size, 4, none⟩ (.int .i64 (p.lo + (aq - c))) = w3 at *
        clear x0 xf
        have y0 : w3.cell? ⟨w.heap.size, 0, none⟩ = some (.string p.ser.prod) := HX2.out.cell 0
        have y1 : w3.cell? ⟨w.heap.size, 1, none⟩ = some (.int .i64 p.ser.kind) := HX2.out.cell 1
        have y2 : w3.cell? ⟨w.heap.size, 2, none⟩ = some (.int .i64 p.ser.expiry) := HX2.out.cell 2
        have y3 : w3.cell? ⟨w.heap.size, 3, none⟩ = some (.int .i64 p.ser.strike) := HX2.out.cell 3
        have y4 : w3.cell? ⟨w.heap.size, 4, none⟩ = some (.int .i64 (p.lo + (aq - c))) := HX2.out.cell 4
        have y5 : w3.cell? ⟨w.heap.size, 5, none⟩ = some (.int .i64 (p.sh - c)) := HX2.out.cell 5
        have yl := HX2.out.lt
        have z0 : w3.cell? ⟨w.heap.size + 1, 0, none⟩ = some (.string ⟨#[]⟩) := HR2.out.cell 0
        have z1 : w3.cell? ⟨w.heap.size + 1, 1, none⟩ = some (.int .i64 0) := HR2.out.cell 1
        have z2 : w3.cell? ⟨w.heap.size + 1, 2, none⟩ = some (.int .i64 0) := HR2.out.cell 2
        have z3 : w3.cell? ⟨w.heap.size + 1, 3, none⟩ = some (.int .i64 0) := HR2.out.cell 3
        have z4 : w3.cell? ⟨w.heap.size + 1, 4, none⟩ = some (.int .i64 0) := HR2.out.cell 4
        have z5 : w3.cell? ⟨w.heap.size + 1, 5, none⟩ = some (.int .i64 0) := HR2.out.cell 5
        have f0 := HR2.out.frozen 0
        have f1 := HR2.out.frozen 1
        have f2 := HR2.out.frozen 2
        have f3 := HR2.out.frozen 3
        have f4 := HR2.out.frozen 4
        have f5 := HR2.out.frozen 5
        go_wp2_with fail
        (try simp only [Exit.inBlock, Exit.then])
        have HR4 : Hid (CB ((((((w3.setCell ⟨w.heap.size + 1, 0, none⟩ (.string p.ser.prod)).setCell ⟨w.heap.size + 1, 1, none⟩ (.int .i64 p.ser.kind)).setCell ⟨w.heap.size + 1, 2, none⟩ (.int .i64 p.ser.expiry)).setCell ⟨w.heap.size + 1, 3, none⟩ (.int .i64 p.ser.strike)).setCell ⟨w.heap.size + 1, 4, none⟩ (.int .i64 (p.lo + (aq - c)))).setCell ⟨w.heap.size + 1, 5, none⟩ (.int .i64 (p.sh - c))) (w.heap.size + 1) 46 (posC ⟨p.ser, p.lo + (aq - c), p.sh - c⟩)) := Lib.hid (HR2.out.putP ⟨p.ser, p.lo + (aq - c), p.sh - c⟩)
        have HB4 : Hid (Below w.heap.size w ((((((w3.setCell ⟨w.heap.size + 1, 0, none⟩ (.string p.ser.prod)).setCell ⟨w.heap.size + 1, 1, none⟩ (.int .i64 p.ser.kind)).setCell ⟨w.heap.size + 1, 2, none⟩ (.int .i64 p.ser.expiry)).setCell ⟨w.heap.size + 1, 3, none⟩ (.int .i64 p.ser.strike)).setCell ⟨w.heap.size + 1, 4, none⟩ (.int .i64 (p.lo + (aq - c)))).setCell ⟨w.heap.size + 1, 5, none⟩ (.int .i64 (p.sh - c)))) := Lib.hid (putP_below HB2.out (Nat.le_succ _) ⟨p.ser, p.lo + (aq - c), p.sh - c⟩)
        generalize (((((w3.setCell ⟨w.heap.size + 1, 0, none⟩ (.string p.ser.prod)).setCell ⟨w.heap.size + 1, 1, none⟩ (.int .i64 p.ser.kind)).setCell ⟨w.heap.size + 1, 2, none⟩ (.int .i64 p.ser.expiry)).setCell ⟨w.heap.size + 1, 3, none⟩ (.int .i64 p.ser.strike)).setCell ⟨w.heap.size + 1, 4, none⟩ (.int .i64 (p.lo + (aq - c)))).setCell ⟨w.heap.size + 1, 5, none⟩ (.int .i64 (p.sh - c)) = w4 at *
        exact bodyPost_ret (results_post (x := ⟨p.ser, p.lo + (aq - c), p.sh - c⟩) rfl _ _ _ rfl HR4.out) rfl ⟨rfl, HB4.out⟩
end Go.Proofs.Ytdhkflmodcgooaa

/- Legs in memory, over any program. -/
namespace Go.Recs
open Go.RowKit
set_option linter.unusedVariables false
def legV (x : NM.Leg) : List Value := [.string x.am, .string x.an, .string x.ser.prod, .int .i64 x.ser.kind, .int .i64 x.ser.expiry, .int .i64 x.ser.strike, .int .i64 x.qty, .int .i64 x.price, .int .i64 x.trade]
def legQ (x : NM.Leg) : Prop := x.am.size ≤ maxLen ∧ x.an.size ≤ maxLen ∧ serQ x.ser ∧ i64 x.qty ∧ i64 x.price ∧ i64 x.trade
def legL : List Leaf := [.str, .str, .str, .int .i64, .int .i64, .int .i64, .int .i64, .int .i64, .int .i64]
theorem leg_row (r : List Value) (h : okAll legL r) : ∃ x : NM.Leg, r = legV x ∧ legQ x := by
  obtain ⟨c0, r0, rfl, ⟨s0, rfl, h0⟩, g0⟩ := okAll_cons h
  obtain ⟨c1, r1, rfl, ⟨s1, rfl, h1⟩, g1⟩ := okAll_cons g0
  obtain ⟨c2, r2, rfl, ⟨s2, rfl, h2⟩, g2⟩ := okAll_cons g1
  obtain ⟨c3, r3, rfl, ⟨n3, rfl, h3⟩, g3⟩ := okAll_cons g2
  obtain ⟨c4, r4, rfl, ⟨n4, rfl, h4⟩, g4⟩ := okAll_cons g3
  obtain ⟨c5, r5, rfl, ⟨n5, rfl, h5⟩, g5⟩ := okAll_cons g4
  obtain ⟨c6, r6, rfl, ⟨n6, rfl, h6⟩, g6⟩ := okAll_cons g5
  obtain ⟨c7, r7, rfl, ⟨n7, rfl, h7⟩, g7⟩ := okAll_cons g6
  obtain ⟨c8, r8, rfl, ⟨n8, rfl, h8⟩, g8⟩ := okAll_cons g7
  rw [okAll_nil g8]
  exact ⟨⟨s0, s1, ⟨s2, n3, n4, n5⟩, n6, n7, n8⟩, rfl, h0, h1, ⟨h2, bounds_i64 h3, bounds_i64 h4, bounds_i64 h5⟩, bounds_i64 h6, bounds_i64 h7, bounds_i64 h8⟩
abbrev Legs := TR legV legQ 9
theorem legs_get {w : World} {A : Option Addr} {l : List NM.Leg} (h : Legs w A l) {k : Nat} (hk : k < l.length) :
    ∃ b off, ∃ x : NM.Leg, A = some ⟨b, off, none⟩ ∧ b < w.heap.size ∧ Hid (NM.lAt l k = x) ∧ legQ x ∧ w.cell? ⟨b, off + k * 9, none⟩ = some (.string x.am) ∧ w.cell? ⟨b, off + k * 9 + 1, none⟩ = some (.string x.an) ∧
      w.cell? ⟨b, off + k * 9 + 2, none⟩ = some (.string x.ser.prod) ∧ w.cell? ⟨b, off + k * 9 + 3, none⟩ = some (.int .i64 x.ser.kind) ∧ w.cell? ⟨b, off + k * 9 + 4, none⟩ = some (.int .i64 x.ser.expiry) ∧
      w.cell? ⟨b, off + k * 9 + 5, none⟩ = some (.int .i64 x.ser.strike) ∧ w.cell? ⟨b, off + k * 9 + 6, none⟩ = some (.int .i64 x.qty) ∧ w.cell? ⟨b, off + k * 9 + 7, none⟩ = some (.int .i64 x.price) ∧ w.cell? ⟨b, off + k * 9 + 8, none⟩ = some (.int .i64 x.trade) := by
  obtain ⟨b, off, rfl, hb, hq, hc⟩ := h.at_ hk
  exact ⟨b, off, l[k], rfl, hb, Lib.hid (NM.lAt_get hk), hq, hc 0 (by omega), hc 1 (by omega), hc 2 (by omega), hc 3 (by omega), hc 4 (by omega), hc 5 (by omega), hc 6 (by omega), hc 7 (by omega), hc 8 (by omega)⟩
theorem legV_one (l : List NM.Leg) : ∀ r ∈ l.map legV, ∀ u ∈ r, u.oneCell' = true := by
  intro r hr
  obtain ⟨t, _, rfl⟩ := List.mem_map.1 hr
  intro u hu
  simp only [legV, List.mem_cons, List.not_mem_nil, or_false] at hu
  rcases hu with rfl | rfl | rfl | rfl | rfl | rfl | rfl | rfl | rfl <;> rfl
end Go.Recs

/- A leg and an account's name in a box; records compared. -/
namespace Go.Proofs.Ytdhkflmodcgooaa
open Go.RowKit Go.Recs
set_option linter.unusedVariables false
set_option linter.unusedSimpArgs false
abbrev legA (x : NM.Leg) : Value := .agg #[.string x.am, .string x.an, .string x.ser.prod, .int .i64 x.ser.kind, .int .i64 x.ser.expiry, .int .i64 x.ser.strike, .int .i64 x.qty, .int .i64 x.price, .int .i64 x.trade]
abbrev legC (x : NM.Leg) : Array Value := #[.string x.am, .string x.an, .string x.ser.prod, .int .i64 x.ser.kind, .int .i64 x.ser.expiry, .int .i64 x.ser.strike, .int .i64 x.qty, .int .i64 x.price, .int .i64 x.trade]
abbrev kA (a b : ByteArray) : Value := .agg #[.string a, .string b]
abbrev kC (a b : ByteArray) : Array Value := #[.string a, .string b]
theorem info_leg : (Try.prog.info? 60).map (fun i => (i.zero, i.size, i.bytes)) = some (some (legA NM.zero), 9, 96) := by kernel_rfl
theorem leg_under : Try.prog.underlying 60 = some (.struct (Try.prog.fieldsOf 60)) := by kernel_rfl
theorem leg_size : (Try.prog.info? 60).map (·.size) = some 9 := by kernel_rfl
theorem load_leg (w : World) (g : Nat) (x : NM.Leg) (hb : CB w g 60 (legC x)) : (loadVar 60 ⟨g, 0, none⟩).run Try.prog w = .ok (legA x) w := by
  rw [run_loadVar_row w g 60 60 _ (0, 0) _ hb leg_under rfl leg_size]
theorem results_leg {fn : Func} {p : Tmp} (h : fn.results = #[.cell p 60]) (tmps : Array Value) (w : World) (g : Nat) (x : NM.Leg)
    (hp : tmps.getD p undef = .pointer (some ⟨g, 0, none⟩)) (hb : CB w g 60 (legC x)) : (results fn tmps).run Try.prog w = .ok (legA x) w := by
  rw [results_cell1 h, hp]
  simp only [asAddr, Sem.run_pure, Result.andThen_ok]
  exact load_leg w g x hb
theorem results_legs {fn : Func} {p q : Tmp} (h : fn.results = #[.cell p 60, .cell q 60]) (tmps : Array Value) (w : World) (g j : Nat) (x y : NM.Leg)
    (hp : tmps.getD p undef = .pointer (some ⟨g, 0, none⟩)) (hq : tmps.getD q undef = .pointer (some ⟨j, 0, none⟩)) (hb : CB w g 60 (legC x)) (hc : CB w j 60 (legC y)) : (results fn tmps).run Try.prog w = .ok (.tuple #[legA x, legA y]) w := by
  rw [results_cell2 h, hp]
  simp only [asAddr, Sem.run_pure, Result.andThen_ok]
  rw [load_leg w g x hb]
  simp only [Result.andThen_ok, hq, asAddr, Sem.run_pure]
  rw [load_leg w j y hc]
  rfl
/-- the world with the leg x in block g -/
def putL (w : World) (g : Nat) (x : NM.Leg) : World := ((((((((w.setCell ⟨g, 0, none⟩ (.string x.am)).setCell ⟨g, 1, none⟩ (.string x.an)).setCell ⟨g, 2, none⟩ (.string x.ser.prod)).setCell ⟨g, 3, none⟩ (.int .i64 x.ser.kind)).setCell ⟨g, 4, none⟩ (.int .i64 x.ser.expiry)).setCell ⟨g, 5, none⟩ (.int .i64 x.ser.strike)).setCell ⟨g, 6, none⟩ (.int .i64 x.qty)).setCell ⟨g, 7, none⟩ (.int .i64 x.price)).setCell ⟨g, 8, none⟩ (.int .i64 x.trade)
theorem CB.putL {w : World} {g : Nat} {y : NM.Leg} (h : CB w g 60 (legC y)) (x : NM.Leg) : CB (Proofs.Ytdhkflmodcgooaa.putL w g x) g 60 (legC x) := by
  have := ((((((((h.set_ 0 (.string x.am)).set_ 1 (.string x.an)).set_ 2 (.string x.ser.prod)).set_ 3 (.int .i64 x.ser.kind)).set_ 4 (.int .i64 x.ser.expiry)).set_ 5 (.int .i64 x.ser.strike)).set_ 6 (.int .i64 x.qty)).set_ 7 (.int .i64 x.price)).set_ 8 (.int .i64 x.trade)
  unfold Proofs.Ytdhkflmodcgooaa.putL
  simpa using this
theorem putL_below {a w : World} {B g : Nat} (h : Below B a w) (hg : B ≤ g) (x : NM.Leg) : Below B a (putL w g x) :=
  ((((((((h.setCell (p := ⟨g, 0, none⟩) hg _).setCell (p := ⟨g, 1, none⟩) hg _).setCell (p := ⟨g, 2, none⟩) hg _).setCell (p := ⟨g, 3, none⟩) hg _).setCell (p := ⟨g, 4, none⟩) hg _).setCell (p := ⟨g, 5, none⟩) hg _).setCell (p := ⟨g, 6, none⟩) hg _).setCell (p := ⟨g, 7, none⟩) hg _).setCell (p := ⟨g, 8, none⟩) hg _
theorem CB.putL_far {w : World} {g j : Nat} {t : TypeId} {cs : Array Value} (h : CB w g t cs) (hne : g ≠ j) (x : NM.Leg) : CB (Proofs.Ytdhkflmodcgooaa.putL w j x) g t cs :=
  ((((((((h.far (p := ⟨j, 0, none⟩) hne _).far (p := ⟨j, 1, none⟩) hne _).far (p := ⟨j, 2, none⟩) hne _).far (p := ⟨j, 3, none⟩) hne _).far (p := ⟨j, 4, none⟩) hne _).far (p := ⟨j, 5, none⟩) hne _).far (p := ⟨j, 6, none⟩) hne _).far (p := ⟨j, 7, none⟩) hne _).far (p := ⟨j, 8, none⟩) hne _
theorem acc_in_at (n : Nat) (a b c d : ByteArray) (w : World) : (Op.equalIn (n + 2) 26 (kA a b) (kA c d)).run Try.prog w = .ok (NM.aeq a b c d) w := by
  have u9 := Try.underlying9
  have a9 := Try.isAgg9
  have z9 := Try.sizeOf9
  have hS : Try.prog.underlying 26 = some (.struct (Try.prog.fieldsOf 26)) := by kernel_rfl
  have hp : Try.prog.stoodInHeld 26 = false := by kernel_rfl
  rw [show n + 2 = (n + 1) + 1 from rfl, run_equalIn_agg w (n + 1) 26 _ _ hS hp]
  simp only [Program.fieldsOf, Try.underlying26]
  unfold NM.aeq
  go_simp
  by_cases h1 : a.toList = c.toList <;> by_cases h2 : b.toList = d.toList <;> simp [h1, h2]
theorem ser_in_at (n : Nat) (x y : EM.Ser) (w : World) : (Op.equalIn (n + 2) 44 (serA x) (serA y)).run Try.prog w = .ok (NM.seqB x y) w := by
  have u3 := Try.underlying3
  have u9 := Try.underlying9
  have a3 := Try.isAgg3
  have a9 := Try.isAgg9
  have z3 := Try.sizeOf3
  have z9 := Try.sizeOf9
  have hS : Try.prog.underlying 44 = some (.struct (Try.prog.fieldsOf 44)) := by kernel_rfl
  have hp : Try.prog.stoodInHeld 44 = false := by kernel_rfl
  rw [show n + 2 = (n + 1) + 1 from rfl, run_equalIn_agg w (n + 1) 44 _ _ hS hp]
  simp only [Program.fieldsOf, Try.underlying44]
  unfold NM.seqB
  go_simp
  by_cases h1 : x.prod.toList = y.prod.toList <;> by_cases h2 : x.kind = y.kind <;> by_cases h3 : x.expiry = y.expiry <;> by_cases h4 : x.strike = y.strike <;> simp [h1, h2, h3, h4]
theorem acc_in (a b c d : ByteArray) (w : World) : (Op.equalIn 10000 26 (kA a b) (kA c d)).run Try.prog w = .ok (NM.aeq a b c d) w := acc_in_at 9998 a b c d w
theorem serB_in (x y : EM.Ser) (w : World) : (Op.equalIn 10000 44 (serA x) (serA y)).run Try.prog w = .ok (NM.seqB x y) w := ser_in_at 9998 x y w
theorem acc_guard : Try.prog.eqGuardType Try.prog.depth 26 = false := by kernel_rfl
theorem leg_guard : Try.prog.eqGuardType Try.prog.depth 60 = false := by kernel_rfl
theorem leg_in (x y : NM.Leg) (w : World) : (Op.equalIn 10000 60 (legA x) (legA y)).run Try.prog w = .ok (NM.leq x y) w := by
  have u3 := Try.underlying3
  have a3 := Try.isAgg3
  have z3 := Try.sizeOf3
  have aA := Try.isAgg26
  have zA := Try.sizeOf26
  have aS := Try.isAgg44
  have zS := Try.sizeOf44
  have hS : Try.prog.underlying 60 = some (.struct (Try.prog.fieldsOf 60)) := by kernel_rfl
  have hp : Try.prog.stoodInHeld 60 = false := by kernel_rfl
  have e1 := acc_in_at 9997 x.am x.an y.am y.an
  have e2 := ser_in_at 9997 x.ser y.ser
  rw [show (10000 : Nat) = 9999 + 1 from rfl, run_equalIn_agg w 9999 60 _ _ hS hp]
  simp only [Program.fieldsOf, Try.underlying60]
  unfold NM.leq
  generalize NM.aeq x.am x.an y.am y.an = p at *
  generalize NM.seqB x.ser y.ser = q at *
  go_simp
  cases p <;> cases q <;> by_cases h1 : x.qty = y.qty <;> by_cases h2 : x.price = y.price <;> by_cases h3 : x.trade = y.trade <;> simp [h1, h2, h3]
end Go.Proofs.Ytdhkflmodcgooaa

/- maps.Values at positions; slices.AppendSeq, slices.Collect. -/
namespace Go.Proofs.Ytdhkflmodcgooaa
open Go.RowKit Go.Recs Go.Maps Go.Shelf
set_option linter.unusedVariables false
set_option linter.unusedSimpArgs false
attribute [local go_sem] Oper.semAt_some
set_option maxRecDepth 100000 in
set_option maxHeartbeats 4000000 in
theorem pvalues1_in (F : Fence) (n : Nat) (hf : F.fn 96) (hro : F.round = none) (hn : 1 ≤ n) (l Bm b nn : Nat) (D0 : DataW Unit) (ps0 : List PO.Pos) (hS : PSays D0 ps0) (J Jx : List PO.Pos → World → Prop)
    (hY : ∀ pre x W, J pre W → pre.length < ps0.length → YieldAt F (n - 1) Try.prog l #[posA x] W fun e W' =>
      (e = .returned (.bool true) ∧ J (pre ++ [x]) W' ∧ KeepsWalks W W') ∨ (e = .returned (.bool false) ∧ Jx (pre ++ [x]) W'))
    (W : World) (hJ : AbidesFrom W.heap.size J) (hm : W.cell? ⟨Bm, 0, none⟩ = some (.map (some b))) (hown : W.ownsMap Try.prog 44 posElem b nn D0) (h0 : J [] W) :
    CallsIn F n Try.prog 96 #[.func (.yield l) #[] #[], .pointer (some ⟨Bm, 0, none⟩)] W fun e W' => (∃ v, e = .returned v) ∧
      ((∃ xs, xs.Perm ps0 ∧ J xs W') ∨ (∃ pre, True ∧ Jx pre W')) := by
  refine callsIn_of_wp Try.func96 rfl hf ?_ hro
  simp only [Try.ntmps96, List.size_toArray, List.length_cons, List.length_nil, Nat.reduceAdd, Nat.reduceSub, Array.replicate_succ, Array.replicate_zero, List.push_toArray, List.append_toArray, List.nil_append, List.cons_append]
  gi_wp2_with (first
    | (gi_at_range; refine wpListIn_range_own _ rfl _ 97 rfl 44 46 (Keyed.of_law ser_law) bySer_under _ b nn _ rfl hown ?_; intro w0 hrg0 hg0 hs0)
    | gi_in)
  go_frame
  gi_loopw [4, 9] (fun _ _ wr => ∃ (left : Lit → Bool) (cnt : Nat) (ps : List PO.Pos), wr.ranges Try.prog 44 posElem b W.heap.size nn D0 left cnt ∧ MG.Part pkey ps0 left ps ∧ J ps wr)
    (fun _ _ wr => wr.rangeLeft b W.heap.size)
  case atStart =>
    exact ⟨_, _, [], hrg0, hS.start, hJ [] W w0 none h0 hg0 (fun r e => by cases e)⟩
  case round =>
    obtain ⟨left, cnt, ps, hrg, hP, hJs⟩ := hrel
    gi_wp2_with (first
      | (gi_at_next; refine wpListIn_next_ranges _ rfl _ rfl 44 (Keyed.of_law ser_law) posElem (id : Value → Value) posA (fun key kl hk => ⟨key, rfl⟩) (fun v y hv => by obtain ⟨c, rfl, _⟩ := posElem_inv hv; exact ⟨c, rfl⟩) b W.heap.size nn _ _ _ rfl hrg ?_ ?_)
      | gi_in)
    · intro hc0 hl0
      gi_wp2
      go_end0
      exact ⟨⟨_, rfl⟩, .inl ⟨ps, hP.done hl0, hJs⟩⟩
    · intro x c kl yd yp w2 cnt2 hkey hlk hv hat hrg2 hlt hg2 hs2 hen
      obtain ⟨a, ha, rfl, hd, hP2, hln⟩ := hS.step hP hlk hat
      obtain rfl : c = a := by
        obtain ⟨c', ec, ez⟩ := posElem_inv hv
        have e1 : c = c' := by
          obtain ⟨⟨a1, a2, a3, a4⟩, a5, a6⟩ := c
          obtain ⟨⟨b1, b2, b3, b4⟩, b5, b6⟩ := c'
          simp at ec
          simp [ec]
        subst e1
        have e2 : yd = posD c := (Prod.mk.inj ez).1
        exact posD_inj (e2.symm.trans hd)
      have hJ2 : J ps w2 := hJ ps wr w2 (some W.heap.size) hJs hg2 (fun r e => by cases e; exact ⟨Nat.le_refl _, hrg.iter_walk⟩)
      have hJ3 : J ps (w2.alloc (.cells #[.string c.ser.prod, .int .i64 c.ser.kind, .int .i64 c.ser.expiry, .int .i64 c.ser.strike, .int .i64 c.lo, .int .i64 c.sh] 46)) := hJ ps w2 _ none hJ2 (World.grownBy_alloc w2 _ none) (fun r e => by cases e)
      obtain ⟨fn, tmps, assign, body, hy, hR⟩ := hY ps c _ hJ3 (by rw [List.length_append, List.length_singleton] at hln; omega)
      have hln2 := Lib.hid hln
      clear hs2 hv hd ha hat hkey hln
      gi_wp2
      refine hR.mono ?_
      rintro e W3 (⟨rfl, hJ4, hk4⟩ | ⟨rfl, hJx4⟩)
      · gi_wp2
        have hrg3 := (hrg2.alloc (.cells #[.string c.ser.prod, .int .i64 c.ser.kind, .int .i64 c.ser.expiry, .int .i64 c.ser.strike, .int .i64 c.lo, .int .i64 c.sh] 46)).of_walks hk4
        go_roundw
        case rel => exact ⟨_, cnt2, ps ++ [c], hrg3, hP2, hJ4⟩
        case measure => rw [hrg3.left_eq, hrg.left_eq]; exact hlt
      · gi_wp2
        refine bodyPost_ret (results_none rfl _ _ _) rfl ?_
        exact ⟨⟨_, rfl⟩, .inr ⟨ps ++ [c], trivial, hJx4⟩⟩
end Go.Proofs.Ytdhkflmodcgooaa

/- slices.AppendSeq, slices.Collect over maps.Values at positions. -/
namespace Go.Proofs.Ytdhkflmodcgooaa
open Go.RowKit Go.Recs Go.Maps Go.Shelf
set_option linter.unusedVariables false
set_option linter.unusedSimpArgs false
theorem pvalues_stops (F : Fence) (n : Nat) (hf : F.fn 96) (hro : F.round = none) (hn : 1 ≤ n) (Bm b nn : Nat) (D0 : DataW Unit) (ps0 : List PO.Pos) (hS : PSays D0 ps0) (w : World) (hBm : Bm < w.heap.size)
    (hm : w.cell? ⟨Bm, 0, none⟩ = some (.map (some b))) (hown : w.ownsMap Try.prog 44 posElem b nn D0) :
    SeqStopsK F n Try.prog 96 #[.pointer (some ⟨Bm, 0, none⟩)] (fun x => #[posA x]) KeepsWalks (fun xs => xs.Perm ps0) (fun _ => True) ps0.length w := fun l J Jx W hW hJ hJx hY h0 => by
  have hown' : W.ownsMap Try.prog 44 posElem b nn D0 := by
    have hbl := hown.lt
    obtain ⟨es, clock, hb, Ft, hs, hD⟩ := hown
    exact ⟨es, clock, (hW.block b hbl).trans hb, Ft, hs, hD⟩
  exact pvalues1_in F n hf hro hn l Bm b nn D0 ps0 hS J Jx hY W hJ ((hW.cell (p := ⟨Bm, 0, none⟩) hBm).trans hm) hown' h0
attribute [local go_sem] Oper.semAt_some
theorem pos_cells (w : World) (x : PO.Pos) : ∀ (j : Nat) (u : Value), (posV x)[j]? = some u → (w.alloc (.cells (posC x) 46)).cell? ((⟨w.heap.size, 0, none⟩ : Addr).add j) = some u := by
  intro j u hj
  rw [add_at, Nat.zero_add]
  have e : (posC x)[j]? = some u := by
    have : (posV x).toArray[j]? = some u := by simpa using hj
    exact this
  exact ((CB.new w 46 (posC x)).cell j).trans e
theorem pos_ones (x : PO.Pos) : ∀ u ∈ posV x, u.oneCell' = true := posV_one [x] (posV x) (by simp)
theorem cb_own (Bx : Nat) (t : TypeId) (cs : Array Value) : Go.Own (fun (_ : Unit) W => CB W Bx t cs) := fun s X Y row hs hg hrow =>
  (hg.block Bx (CB.lt hs) (fun e' => by
    obtain ⟨o, ho, hc⟩ := hrow Bx e'.symm
    rw [show X.heap[Bx]? = _ from hs] at ho; cases ho; cases hc)).trans hs
set_option maxRecDepth 100000 in
set_option maxHeartbeats 4000000 in
theorem pappend_in (F : Fence) (n : Nat) (hf : F.fn 98) (hro : F.round = none) (hn : 2 ≤ n) (g : Nat) (lb : Array Value) (hFg : F.fn g) (eg : ∀ args w, (callFunc g args).run Try.prog w = .ok (.enter g args) w)
    (S : List PO.Pos → Prop) (N : Nat) (hN : N ≤ 1000000) (w : World) (hseq : SeqStopsK F (n - 1) Try.prog g lb (fun x => #[posA x]) KeepsWalks S (fun _ => True) N w) :
    CallsIn F n Try.prog 98 #[.slice none 0 0, .func (.func g) #[] lb] w fun e w' => ∃ (v : Value) (xs : List PO.Pos), e = .returned v ∧ S xs ∧ OwnR w' w.heap.size 46 6 v (xs.map posV) ∧ (v = .slice none 0 0 ↔ xs = []) ∧ Below w.heap.size w w' := by
  have h1 : 1 ≤ n := by omega
  refine callsIn_of_wp_marks Try.func98 rfl hf ?_ hro
  simp only [Try.ntmps98, List.size_toArray, List.length_cons, List.length_nil, Nat.reduceAdd, Nat.reduceSub, Array.replicate_succ, Array.replicate_zero, List.push_toArray, List.append_toArray, List.nil_append, List.cons_append]
  gi_wp2
  have bS := Boxed.new w 42 (.slice none 0 0)
  have hB0 : Below w.heap.size w (w.alloc (.cells #[.slice none 0 0] 42)) := (Below.refl _ w).alloc (Nat.le_refl _) _
  have hsz : (w.alloc (.cells #[.slice none 0 0] 42)).heap.size = w.heap.size + 1 := by simp
  obtain ⟨W0, hW0⟩ : ∃ W0, w.alloc (.cells #[.slice none 0 0] 42) = W0 := ⟨_, rfl⟩
  rw [hW0] at bS hB0 hsz ⊢
  clear hW0
  obtain ⟨i0, hi, hz0, hz1, hz2⟩ := info_parts info_pos
  refine wpIn_rangeFunc_ownH hro h1 (gf := g) (lb := lb) rfl hFg eg hseq walksK_t walksK_b hB0 (fun _ => rfl)
    (fun pre W => (∃ v, Boxed W w.heap.size 42 v ∧ W.ownsRow w.heap.size 46 6 v pre.length (pre.map posV).flatten ∧ (v = .slice none 0 0 ↔ pre = [])) ∧ Below w.heap.size w W)
    (fun _ _ _ => False)
    (OwnFrom.and (Go.Own.from (holdsRow_own w.heap.size w.heap.size 42 46 6 (fun pre => pre.length) (fun pre => (pre.map posV).flatten) (fun pre v => v = .slice none 0 0 ↔ pre = [])) _) (ownFrom_below (Nat.le_refl _) (by omega)))
    (fun _ _ _ _ _ hs _ _ => hs)
    ⟨⟨_, bS, World.ownsRow_nil _ _ _ _, by simp⟩, hB0⟩
    (fun x a' W => ∃ Bx, w.heap.size < Bx ∧ CB W Bx 46 (posC x) ∧ a' = { tmps := #[.slice none 0 0, .func (.func g) #[] lb, .pointer (some ⟨w.heap.size, 0, none⟩), undef, .slice none 0 0, .pointer (some ⟨Bx, 0, none⟩), .func (.func g) #[] lb, posA x, undef, undef, undef, undef, undef], defers := [] })
    (fun x a' _ X Y row hs hg hr => by obtain ⟨Bx, h1, h2, h3⟩ := hs; exact ⟨Bx, h1, cb_own Bx 46 (posC x) () X Y row h2 hg (fun r e => (hr r e).2), h3⟩)
    ?assign ?body ?done ?stop
  case assign =>
    rintro l pre x W K ⟨⟨v, bV, hr, hnl⟩, hB⟩ hK
    gi_wp2
    exact hK _ _ ((KeepsOthers.alloc _ _).from _) (KeepsWalks.alloc _ _) ⟨⟨v, bV.alloc _, World.ownsRow.alloc hr _, hnl⟩, hB.alloc hB.size _⟩ ⟨W.heap.size, bV.lt, CB.new W _ _, rfl⟩
  case body =>
    rintro l pre x a' W hl ⟨r, hr⟩ ⟨⟨v, bV, hrow, hnl⟩, hB⟩ ⟨Bx, hBx, bX, rfl⟩ hlt
    have cV := bV.cell
    have fV := bV.frozen
    have x0 : W.cell? ⟨Bx, 0, none⟩ = some (.string x.ser.prod) := bX.cell 0
    have x1 : W.cell? ⟨Bx, 1, none⟩ = some (.int .i64 x.ser.kind) := bX.cell 1
    have x2 : W.cell? ⟨Bx, 2, none⟩ = some (.int .i64 x.ser.expiry) := bX.cell 2
    have x3 : W.cell? ⟨Bx, 3, none⟩ = some (.int .i64 x.ser.strike) := bX.cell 3
    have x4 : W.cell? ⟨Bx, 4, none⟩ = some (.int .i64 x.lo) := bX.cell 4
    have x5 : W.cell? ⟨Bx, 5, none⟩ = some (.int .i64 x.sh) := bX.cell 5
    have hsW := hB.size
    have hbl := bX.lt
    gi_wp2_with (gi_at_builtin; refine wpListIn_append_own _ rfl _ _ 42 rfl w.heap.size 46 i0 (posA PO.zero) 6 56 Try.underlying42 hi hz0 hz1 hz2 rfl (by decide) _ _ _ rfl (World.ownsRow.alloc hrow _) ⟨W.heap.size, 0, none⟩ 1 1 (posV x) rfl rfl (pos_cells W x) (pos_ones x) (by unfold maxLen; omega) (by omega) (by simp; omega) ?_; intro v' w1 hown' hgrow _; obtain ⟨g', cap', rfl⟩ := ownsRow_succ hown'; obtain ⟨hv1, hv2, hr2, hk2, hb2⟩ := bV.appended (by decide) hrow hB.size (Nat.le_refl _) hown' hgrow; have hc1 := hv1.cell; have hf1 := hv1.frozen)
    exact ⟨hk2.from _, hk2.walks, ⟨⟨_, hv2, by simpa using hr2, by simp⟩, hB.trans hb2⟩⟩
  case done =>
    rintro D xs W hD hS ⟨⟨v, bV, hrow, hnl⟩, hB⟩ hK
    have cV := bV.cell
    gi_wp2
    refine ⟨by simp, .inl ⟨_, _, rfl, run_takeDeferred hK, ?_⟩⟩
    exact ⟨_, results_tmp rfl _ _ _, v, xs, rfl, hS, ⟨fun r hr => by obtain ⟨p, _, rfl⟩ := List.mem_map.1 hr; rfl, by have := ownsRow_putObj hrow (.deferred none) hK rfl; simpa using this⟩, hnl, hB.trans (belowK_b (w := w) (Nat.le_refl _) W D _ _ (by omega) hK rfl rfl)⟩
  case stop =>
    rintro D c pre W hD _ h _
    exact h.elim
end Go.Proofs.Ytdhkflmodcgooaa
