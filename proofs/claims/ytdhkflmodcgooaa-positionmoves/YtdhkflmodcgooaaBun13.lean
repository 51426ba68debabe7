/- Put together: PosU1, PosU2. -/
import Derived.Test.YtdhkflmodcgooaaBun12
/- Contracts of layer 15's reference: Apply, sold. -/
namespace Go.Proofs.Ytdhkflmodcgooaa
open Go.RowKit Go.Recs
set_option linter.unusedVariables false
set_option linter.unusedSimpArgs false
set_option maxHeartbeats 16000000 in
set_option maxRecDepth 100000 in
theorem rapply15_neg (A : Option Addr) (l : List PO.Pos) (n cap : Nat) (hn : n = l.length) (kind : Int) (x : NM.Leg) (closes : Int) (w : World) (hI : Poss w A l) (hc : PO.checkE l = 0) (hl : PO.legE kind x.qty closes = 0) (hneg : x.qty < 0) :
    Calls Try.prog 30 #[.slice A n cap, .int .i64 kind, legA x, .int .i64 closes] w fun e w' => ∃ v, e = .returned (.tuple #[v, .int .i64 (PO.applyE l kind x.ser x.qty closes)]) ∧ OwnR w' w.heap.size 46 6 v ((PO.applyL l kind x.ser x.qty closes).map posV) ∧ Below w.heap.size w w' := by
  subst hn
  have hlen := hI.len
  have HB0 := Lib.hid (below_al (Below.refl w.heap.size w) (.cells (legC x) 60))
  have HX0 := Lib.hid (CB.new w 60 (legC x))
  have HI0 := Lib.hid (hI.below HB0.out)
  have C1 := Lib.hid (fun ww h => rcheck15_any A l l.length cap rfl ww h)
  have C2 := Lib.hid (fun ww => rkind15_any kind ww)
  have x2 : (w.alloc (.cells (legC x) 60)).cell? ⟨w.heap.size, 2, none⟩ = some (.string x.ser.prod) := HX0.out.cell 2
  have x3 : (w.alloc (.cells (legC x) 60)).cell? ⟨w.heap.size, 3, none⟩ = some (.int .i64 x.ser.kind) := HX0.out.cell 3
  have x4 : (w.alloc (.cells (legC x) 60)).cell? ⟨w.heap.size, 4, none⟩ = some (.int .i64 x.ser.expiry) := HX0.out.cell 4
  have x5 : (w.alloc (.cells (legC x) 60)).cell? ⟨w.heap.size, 5, none⟩ = some (.int .i64 x.ser.strike) := HX0.out.cell 5
  have x6 : (w.alloc (.cells (legC x) 60)).cell? ⟨w.heap.size, 6, none⟩ = some (.int .i64 x.qty) := HX0.out.cell 6
  clear hI
  have hl128 : l.length ≤ 1048576 := by have := (PO.check_good hc).1; omega
  obtain ⟨_, _, hg⟩ := PO.check_good hc
  rw [hc] at C1
  obtain ⟨hk, hqq, hcl⟩ := PO.leg_parts hl
  rw [show (decide (1 ≤ kind) && decide (kind ≤ 3)) = true by simp [hk]] at C2
  have z1 : (x.qty == 0) = false := by simp; omega
  have z2 : decide (x.qty < -1048576) = false := decide_eq_false (by omega)
  have z3 : decide (1048576 < x.qty) = false := decide_eq_false (by omega)
  have C3 := Lib.hid (fun ww => rsize15_any x.qty (by omega) ww)
  have hfl := PO.find_lots hg x.ser
  obtain ⟨_, k1, k2⟩ := PO.clo_ok hg hl x.ser
  have HPUT := Lib.hid (@PO.apply_put l kind x.ser x.qty closes hc hl)
  have HOPN := Lib.hid (@PO.apply_open l kind x.ser x.qty closes hc hl)
  have C4 := Lib.hid (fun ww h => rfind15_any A l l.length cap rfl x.ser ww h)
  have C5 := Lib.hid (fun p ww h => rput15_any A l l.length cap rfl hl128 p ww h)
  have HNP : Hid (PO.newP l kind x.ser x.qty closes = PO.chg (PO.findP l x.ser) x.qty (PO.cloS kind x.qty closes (PO.findP l x.ser))) := Lib.hid rfl
  have HCL : Hid ((kind = 3 → PO.cloS kind x.qty closes (PO.findP l x.ser) = closes) ∧ (¬ kind = 3 → PO.cloS kind x.qty closes (PO.findP l x.ser) = min (PO.absI x.qty) (PO.othS (PO.findP l x.ser) x.qty))) := Lib.hid ⟨fun h => by unfold PO.cloS; rw [if_pos h], fun h => by unfold PO.cloS; rw [if_neg h]⟩
  have hab : 0 ≤ PO.absI x.qty ∧ PO.absI x.qty ≤ 1048576 := by unfold PO.absI; split <;> omega
  obtain ⟨ab1, ab2⟩ := hab
  obtain ⟨⟨f1, f2⟩, f3, f4⟩ := hfl
  have HPA : Hid (∀ q : PO.Pos, posA q = .agg #[.string q.ser.prod, .int .i64 q.ser.kind, .int .i64 q.ser.expiry, .int .i64 q.ser.strike, .int .i64 q.lo, .int .i64 q.sh]) := Lib.hid (fun q => rfl)
  generalize PO.applyE l kind x.ser x.qty closes = ae at *
  generalize PO.applyL l kind x.ser x.qty closes = al at *
  generalize PO.cloS kind x.qty closes (PO.findP l x.ser) = cl at *
  generalize PO.newP l kind x.ser x.qty closes = np at *
  generalize PO.findP l x.ser = fp at *
  clear hl hc hg hqq
  have HN : Hid (np = ⟨fp.ser, fp.lo - cl, fp.sh + (PO.absI x.qty - cl)⟩) := Lib.hid (by rw [HNP.out]; unfold PO.chg; rw [if_pos hneg])
  have HOT : Hid (PO.othS fp x.qty = fp.lo) := Lib.hid (by unfold PO.othS; rw [if_pos hneg])
  have C6 : Hid (∀ (a b : Int) (ww : World), a = fp.lo - cl → b = fp.sh + (PO.absI x.qty - cl) → Poss ww A l → Calls Try.prog 62 #[.slice A l.length cap, .agg #[.string fp.ser.prod, .int .i64 fp.ser.kind, .int .i64 fp.ser.expiry, .int .i64 fp.ser.strike, .int .i64 a, .int .i64 b]] ww fun e w' => ∃ v, e = .returned (.tuple #[v, .int .i64 (PO.putE l np)]) ∧ OwnR w' ww.heap.size 46 6 v ((PO.putR l np).map posV) ∧ Below ww.heap.size ww w') := Lib.hid (fun a b ww ha hb h => by
    have := C5.out np ww h
    rw [HPA.out, HN.out] at this
    rw [ha, hb, HN.out]
    exact this)
  rw [HOT.out] at HPUT HOPN HCL
  generalize PO.absI x.qty = na at *
  generalize PO.putE l np = pe at *
  generalize PO.putR l np = pr at *
  clear HNP HN HOT C5 HPA
  by_cases hk3 : kind = 3
  · have z7 : (kind == 3) = true := by simp [hk3]
    have z8 : (kind != 3) = false := by simp [hk3]
    obtain rfl : cl = closes := HCL.out.1 hk3
    have c0 : ¬ cl < 0 := by omega
    have z9 : decide (cl < 0) = false := decide_eq_false c0
    have z10 : decide (na < cl) = false := decide_eq_false (by omega)
    clear hcl hk3 HCL hk
    by_cases ho : fp.lo < cl
    · obtain ⟨e1, e2⟩ := HOPN.out ho
      have HE1 := Lib.hid e1; have HE2 := Lib.hid e2
      clear e1 e2 HOPN HPUT
      go_enter Try.func30, Try.ntmps30
      go_wp2_with fail
      generalize w.alloc (.cells #[.string x.am, .string x.an, .string x.ser.prod, .int .i64 x.ser.kind, .int .i64 x.ser.expiry, .int .i64 x.ser.strike, .int .i64 x.qty, .int .i64 x.price, .int .i64 x.trade] 60) = w0 at *
      refine (C1.out _ HI0.out).mono ?_
      rintro e w1 ⟨rfl, b1⟩
      have HB1 := Lib.hid (HB0.out.trans (b1.mono HB0.out.size))
      have HI1 := Lib.hid (HI0.out.below b1)
      have HX1 := Lib.hid (HX0.out.below b1 HX0.out.lt)
      clear b1 HB0 HI0 HX0 C1 x2 x3 x4 x5 x6
      have x2 : w1.cell? ⟨w.heap.size, 2, none⟩ = some (.string x.ser.prod) := HX1.out.cell 2
      have x3 : w1.cell? ⟨w.heap.size, 3, none⟩ = some (.int .i64 x.ser.kind) := HX1.out.cell 3
      have x4 : w1.cell? ⟨w.heap.size, 4, none⟩ = some (.int .i64 x.ser.expiry) := HX1.out.cell 4
      have x5 : w1.cell? ⟨w.heap.size, 5, none⟩ = some (.int .i64 x.ser.strike) := HX1.out.cell 5
      have x6 : w1.cell? ⟨w.heap.size, 6, none⟩ = some (.int .i64 x.qty) := HX1.out.cell 6
      have xl1 := HX1.out.lt
      go_wp2_with fail
      refine (C2.out _).mono ?_
      rintro e w2 ⟨rfl, rfl⟩
      go_wp2_with fail
      refine (C3.out _).mono ?_
      rintro e w2 ⟨rfl, rfl⟩
      go_wp2_with fail
      refine (C4.out _ HI1.out).mono ?_
      rintro e w3 ⟨rfl, b3⟩
      have HXa := HX1.out.below b3 HX1.out.lt
      have HLT := Lib.hid HXa.lt
      have HB3 := Lib.hid (below_al (HB1.out.trans (b3.mono HB1.out.size)) (.cells #[.string fp.ser.prod, .int .i64 fp.ser.kind, .int .i64 fp.ser.expiry, .int .i64 fp.ser.strike, .int .i64 fp.lo, .int .i64 fp.sh] 46))
      have HI3 := Lib.hid ((HI1.out.below b3).below ((Below.refl w3.heap.size w3).alloc (Nat.le_refl _) (.cells #[.string fp.ser.prod, .int .i64 fp.ser.kind, .int .i64 fp.ser.expiry, .int .i64 fp.ser.strike, .int .i64 fp.lo, .int .i64 fp.sh] 46)))
      have HX3 := Lib.hid (HXa.alloc (.cells #[.string fp.ser.prod, .int .i64 fp.ser.kind, .int .i64 fp.ser.expiry, .int .i64 fp.ser.strike, .int .i64 fp.lo, .int .i64 fp.sh] 46))
      have HF3 := Lib.hid (CB.new w3 46 #[.string fp.ser.prod, .int .i64 fp.ser.kind, .int .i64 fp.ser.expiry, .int .i64 fp.ser.strike, .int .i64 fp.lo, .int .i64 fp.sh])
      have HBF := Lib.hid ((Below.refl w3.heap.size w3).alloc (Nat.le_refl _) (.cells #[.string fp.ser.prod, .int .i64 fp.ser.kind, .int .i64 fp.ser.expiry, .int .i64 fp.ser.strike, .int .i64 fp.lo, .int .i64 fp.sh] 46))
      have HIa := Lib.hid (HI1.out.below b3)
      have HBa := Lib.hid (HB1.out.trans (b3.mono HB1.out.size))
      clear b3 HB1 HI1 HX1 x2 x3 x4 x5 x6 xl1 HXa
      have g0 := HF3.out.cell 0
      have g1 := HF3.out.cell 1
      have g2 := HF3.out.cell 2
      have g3 := HF3.out.cell 3
      have g4 := HF3.out.cell 4
      have g5 := HF3.out.cell 5
      have r4 := HF3.out.frozen 4
      have r5 := HF3.out.frozen 5
      simp only [List.getElem?_toArray, List.getElem?_cons_zero, List.getElem?_cons_succ] at g0 g1 g2 g3 g4 g5
      have x6 : (w3.alloc (.cells #[.string fp.ser.prod, .int .i64 fp.ser.kind, .int .i64 fp.ser.expiry, .int .i64 fp.ser.strike, .int .i64 fp.lo, .int .i64 fp.sh] 46)).cell? ⟨w.heap.size, 6, none⟩ = some (.int .i64 x.qty) := HX3.out.cell 6
      have n1 : ¬ w3.heap.size = w.heap.size := by have := HLT.out; omega
      have n2 : ¬ w.heap.size = w3.heap.size := by have := HLT.out; omega
      obtain ⟨wf, hwf⟩ : ∃ wf, w3.alloc (.cells #[.string fp.ser.prod, .int .i64 fp.ser.kind, .int .i64 fp.ser.expiry, .int .i64 fp.ser.strike, .int .i64 fp.lo, .int .i64 fp.sh] 46) = wf := ⟨_, rfl⟩
      rw [hwf] at g0 g1 g2 g3 g4 g5 r4 r5 x6 HB3 HI3 HX3 HF3 HBF
      have rd5 : ∀ k a b c d, (((((wf.drewN k).setCell ⟨w3.heap.size, 4, none⟩ a).setCell ⟨w3.heap.size, 5, none⟩ b).setCell ⟨w3.heap.size, 4, none⟩ c).setCell ⟨w3.heap.size, 5, none⟩ d).cell? ⟨w3.heap.size, 5, none⟩ = some d := fun k a b c d => by
        have h := (((((HF3.out.drewN k).set_ 4 a).set_ 5 b).set_ 4 c).set_ 5 d).cell 5
        simpa using h
      have HBS : Hid (∀ k a b, Below w3.heap.size w3 (((wf.drewN k).setCell ⟨w3.heap.size, 4, none⟩ a).setCell ⟨w3.heap.size, 5, none⟩ b)) := Lib.hid (fun k a b => ((below_drewN HBF.out k).setCell (p := ⟨w3.heap.size, 4, none⟩) (Nat.le_refl _) a).setCell (p := ⟨w3.heap.size, 5, none⟩) (Nat.le_refl _) b)
      have HBS4 : Hid (∀ k a b c d, Below w3.heap.size w3 (((((wf.drewN k).setCell ⟨w3.heap.size, 4, none⟩ a).setCell ⟨w3.heap.size, 5, none⟩ b).setCell ⟨w3.heap.size, 4, none⟩ c).setCell ⟨w3.heap.size, 5, none⟩ d)) := Lib.hid (fun k a b c d => ((HBS.out k a b).setCell (p := ⟨w3.heap.size, 4, none⟩) (Nat.le_refl _) c).setCell (p := ⟨w3.heap.size, 5, none⟩) (Nat.le_refl _) d)
      go_wp2_with fail
      go_quiet (fail)
      go_wp2_with fail
      go_quiet (fail)
      go_wp2_with fail
      go_ret2
      exact ⟨_, by rw [HE1.out] <;> rfl, by rw [HE2.out]; exact OwnR.nil _ _ _ _, by first | exact below_drewN HB3.out _ | exact HB3.out⟩
    · obtain ⟨e1, e2⟩ := HPUT.out ho
      have HE1 := Lib.hid e1; have HE2 := Lib.hid e2
      clear e1 e2 HOPN HPUT
      go_enter Try.func30, Try.ntmps30
      go_wp2_with fail
      generalize w.alloc (.cells #[.string x.am, .string x.an, .string x.ser.prod, .int .i64 x.ser.kind, .int .i64 x.ser.expiry, .int .i64 x.ser.strike, .int .i64 x.qty, .int .i64 x.price, .int .i64 x.trade] 60) = w0 at *
      refine (C1.out _ HI0.out).mono ?_
      rintro e w1 ⟨rfl, b1⟩
      have HB1 := Lib.hid (HB0.out.trans (b1.mono HB0.out.size))
      have HI1 := Lib.hid (HI0.out.below b1)
      have HX1 := Lib.hid (HX0.out.below b1 HX0.out.lt)
      clear b1 HB0 HI0 HX0 C1 x2 x3 x4 x5 x6
      have x2 : w1.cell? ⟨w.heap.size, 2, none⟩ = some (.string x.ser.prod) := HX1.out.cell 2
      have x3 : w1.cell? ⟨w.heap.size, 3, none⟩ = some (.int .i64 x.ser.kind) := HX1.out.cell 3
      have x4 : w1.cell? ⟨w.heap.size, 4, none⟩ = some (.int .i64 x.ser.expiry) := HX1.out.cell 4
      have x5 : w1.cell? ⟨w.heap.size, 5, none⟩ = some (.int .i64 x.ser.strike) := HX1.out.cell 5
      have x6 : w1.cell? ⟨w.heap.size, 6, none⟩ = some (.int .i64 x.qty) := HX1.out.cell 6
      have xl1 := HX1.out.lt
      go_wp2_with fail
      refine (C2.out _).mono ?_
      rintro e w2 ⟨rfl, rfl⟩
      go_wp2_with fail
      refine (C3.out _).mono ?_
      rintro e w2 ⟨rfl, rfl⟩
      go_wp2_with fail
      refine (C4.out _ HI1.out).mono ?_
      rintro e w3 ⟨rfl, b3⟩
      have HXa := HX1.out.below b3 HX1.out.lt
      have HLT := Lib.hid HXa.lt
      have HB3 := Lib.hid (below_al (HB1.out.trans (b3.mono HB1.out.size)) (.cells #[.string fp.ser.prod, .int .i64 fp.ser.kind, .int .i64 fp.ser.expiry, .int .i64 fp.ser.strike, .int .i64 fp.lo, .int .i64 fp.sh] 46))
      have HI3 := Lib.hid ((HI1.out.below b3).below ((Below.refl w3.heap.size w3).alloc (Nat.le_refl _) (.cells #[.string fp.ser.prod, .int .i64 fp.ser.kind, .int .i64 fp.ser.expiry, .int .i64 fp.ser.strike, .int .i64 fp.lo, .int .i64 fp.sh] 46)))
      have HX3 := Lib.hid (HXa.alloc (.cells #[.string fp.ser.prod, .int .i64 fp.ser.kind, .int .i64 fp.ser.expiry, .int .i64 fp.ser.strike, .int .i64 fp.lo, .int .i64 fp.sh] 46))
      have HF3 := Lib.hid (CB.new w3 46 #[.string fp.ser.prod, .int .i64 fp.ser.kind, .int .i64 fp.ser.expiry, .int .i64 fp.ser.strike, .int .i64 fp.lo, .int .i64 fp.sh])
      have HBF := Lib.hid ((Below.refl w3.heap.size w3).alloc (Nat.le_refl _) (.cells #[.string fp.ser.prod, .int .i64 fp.ser.kind, .int .i64 fp.ser.expiry, .int .i64 fp.ser.strike, .int .i64 fp.lo, .int .i64 fp.sh] 46))
      have HIa := Lib.hid (HI1.out.below b3)
      have HBa := Lib.hid (HB1.out.trans (b3.mono HB1.out.size))
      clear b3 HB1 HI1 HX1 x2 x3 x4 x5 x6 xl1 HXa
      have g0 := HF3.out.cell 0
      have g1 := HF3.out.cell 1
      have g2 := HF3.out.cell 2
      have g3 := HF3.out.cell 3
      have g4 := HF3.out.cell 4
      have g5 := HF3.out.cell 5
      have r4 := HF3.out.frozen 4
      have r5 := HF3.out.frozen 5
      simp only [List.getElem?_toArray, List.getElem?_cons_zero, List.getElem?_cons_succ] at g0 g1 g2 g3 g4 g5
      have x6 : (w3.alloc (.cells #[.string fp.ser.prod, .int .i64 fp.ser.kind, .int .i64 fp.ser.expiry, .int .i64 fp.ser.strike, .int .i64 fp.lo, .int .i64 fp.sh] 46)).cell? ⟨w.heap.size, 6, none⟩ = some (.int .i64 x.qty) := HX3.out.cell 6
      have n1 : ¬ w3.heap.size = w.heap.size := by have := HLT.out; omega
      have n2 : ¬ w.heap.size = w3.heap.size := by have := HLT.out; omega
      obtain ⟨wf, hwf⟩ : ∃ wf, w3.alloc (.cells #[.string fp.ser.prod, .int .i64 fp.ser.kind, .int .i64 fp.ser.expiry, .int .i64 fp.ser.strike, .int .i64 fp.lo, .int .i64 fp.sh] 46) = wf := ⟨_, rfl⟩
      rw [hwf] at g0 g1 g2 g3 g4 g5 r4 r5 x6 HB3 HI3 HX3 HF3 HBF
      have rd5 : ∀ k a b c d, (((((wf.drewN k).setCell ⟨w3.heap.size, 4, none⟩ a).setCell ⟨w3.heap.size, 5, none⟩ b).setCell ⟨w3.heap.size, 4, none⟩ c).setCell ⟨w3.heap.size, 5, none⟩ d).cell? ⟨w3.heap.size, 5, none⟩ = some d := fun k a b c d => by
        have h := (((((HF3.out.drewN k).set_ 4 a).set_ 5 b).set_ 4 c).set_ 5 d).cell 5
        simpa using h
      have HBS : Hid (∀ k a b, Below w3.heap.size w3 (((wf.drewN k).setCell ⟨w3.heap.size, 4, none⟩ a).setCell ⟨w3.heap.size, 5, none⟩ b)) := Lib.hid (fun k a b => ((below_drewN HBF.out k).setCell (p := ⟨w3.heap.size, 4, none⟩) (Nat.le_refl _) a).setCell (p := ⟨w3.heap.size, 5, none⟩) (Nat.le_refl _) b)
      have HBS4 : Hid (∀ k a b c d, Below w3.heap.size w3 (((((wf.drewN k).setCell ⟨w3.heap.size, 4, none⟩ a).setCell ⟨w3.heap.size, 5, none⟩ b).setCell ⟨w3.heap.size, 4, none⟩ c).setCell ⟨w3.heap.size, 5, none⟩ d)) := Lib.hid (fun k a b c d => ((HBS.out k a b).setCell (p := ⟨w3.heap.size, 4, none⟩) (Nat.le_refl _) c).setCell (p := ⟨w3.heap.size, 5, none⟩) (Nat.le_refl _) d)
      go_wp2_with fail
      go_quiet (fail)
      go_wp2_with fail
      go_quiet (fail)
      go_wp2_with fail
      refine (C6.out _ _ _ (by first | rfl | omega | (have h3 := HC3.out; omega)) (by first | rfl | omega | (have h3 := HC3.out; omega)) (HIa.out.below (by exact HBS4.out _ _ _ _ _))).mono ?_
      rintro e w5 ⟨v5, rfl, o5, b5⟩
      have HO5 := Lib.hid o5; have HB5 := Lib.hid b5
      clear o5 b5
      go_wp2_with fail
      go_ret2
      exact ⟨_, by rw [HE1.out] <;> rfl, by rw [HE2.out]; exact HO5.out.lower (by exact Nat.le_trans HBa.out.size (HBS4.out _ _ _ _ _).size), by exact HBa.out.trans (((HBS4.out _ _ _ _ _).trans (HB5.out.mono (HBS4.out _ _ _ _ _).size)).mono HBa.out.size)⟩
  · have z7 : (kind == 3) = false := by simpa using hk3
    have z8 : (kind != 3) = true := by simpa using hk3
    have hcl2 := HCL.out.2 hk3
    obtain ⟨e1, e2⟩ := HPUT.out (by omega)
    have HE1 := Lib.hid e1; have HE2 := Lib.hid e2
    clear e1 e2 HOPN HPUT hcl hk3 HCL hk
    by_cases hm : na ≤ fp.lo
    · obtain rfl : cl = na := by omega
      clear hcl2
      go_enter Try.func30, Try.ntmps30
      go_wp2_with fail
      generalize w.alloc (.cells #[.string x.am, .string x.an, .string x.ser.prod, .int .i64 x.ser.kind, .int .i64 x.ser.expiry, .int .i64 x.ser.strike, .int .i64 x.qty, .int .i64 x.price, .int .i64 x.trade] 60) = w0 at *
      refine (C1.out _ HI0.out).mono ?_
      rintro e w1 ⟨rfl, b1⟩
      have HB1 := Lib.hid (HB0.out.trans (b1.mono HB0.out.size))
      have HI1 := Lib.hid (HI0.out.below b1)
      have HX1 := Lib.hid (HX0.out.below b1 HX0.out.lt)
      clear b1 HB0 HI0 HX0 C1 x2 x3 x4 x5 x6
      have x2 : w1.cell? ⟨w.heap.size, 2, none⟩ = some (.string x.ser.prod) := HX1.out.cell 2
      have x3 : w1.cell? ⟨w.heap.size, 3, none⟩ = some (.int .i64 x.ser.kind) := HX1.out.cell 3
      have x4 : w1.cell? ⟨w.heap.size, 4, none⟩ = some (.int .i64 x.ser.expiry) := HX1.out.cell 4
      have x5 : w1.cell? ⟨w.heap.size, 5, none⟩ = some (.int .i64 x.ser.strike) := HX1.out.cell 5
      have x6 : w1.cell? ⟨w.heap.size, 6, none⟩ = some (.int .i64 x.qty) := HX1.out.cell 6
      have xl1 := HX1.out.lt
      go_wp2_with fail
      refine (C2.out _).mono ?_
      rintro e w2 ⟨rfl, rfl⟩
      go_wp2_with fail
      refine (C3.out _).mono ?_
      rintro e w2 ⟨rfl, rfl⟩
      go_wp2_with fail
      refine (C4.out _ HI1.out).mono ?_
      rintro e w3 ⟨rfl, b3⟩
      have HXa := HX1.out.below b3 HX1.out.lt
      have HLT := Lib.hid HXa.lt
      have HB3 := Lib.hid (below_al (HB1.out.trans (b3.mono HB1.out.size)) (.cells #[.string fp.ser.prod, .int .i64 fp.ser.kind, .int .i64 fp.ser.expiry, .int .i64 fp.ser.strike, .int .i64 fp.lo, .int .i64 fp.sh] 46))
      have HI3 := Lib.hid ((HI1.out.below b3).below ((Below.refl w3.heap.size w3).alloc (Nat.le_refl _) (.cells #[.string fp.ser.prod, .int .i64 fp.ser.kind, .int .i64 fp.ser.expiry, .int .i64 fp.ser.strike, .int .i64 fp.lo, .int .i64 fp.sh] 46)))
      have HX3 := Lib.hid (HXa.alloc (.cells #[.string fp.ser.prod, .int .i64 fp.ser.kind, .int .i64 fp.ser.expiry, .int .i64 fp.ser.strike, .int .i64 fp.lo, .int .i64 fp.sh] 46))
      have HF3 := Lib.hid (CB.new w3 46 #[.string fp.ser.prod, .int .i64 fp.ser.kind, .int .i64 fp.ser.expiry, .int .i64 fp.ser.strike, .int .i64 fp.lo, .int .i64 fp.sh])
      have HBF := Lib.hid ((Below.refl w3.heap.size w3).alloc (Nat.le_refl _) (.cells #[.string fp.ser.prod, .int .i64 fp.ser.kind, .int .i64 fp.ser.expiry, .int .i64 fp.ser.strike, .int .i64 fp.lo, .int .i64 fp.sh] 46))
      have HIa := Lib.hid (HI1.out.below b3)
      have HBa := Lib.hid (HB1.out.trans (b3.mono HB1.out.size))
      clear b3 HB1 HI1 HX1 x2 x3 x4 x5 x6 xl1 HXa
      have g0 := HF3.out.cell 0
      have g1 := HF3.out.cell 1
      have g2 := HF3.out.cell 2
      have g3 := HF3.out.cell 3
      have g4 := HF3.out.cell 4
      have g5 := HF3.out.cell 5
      have r4 := HF3.out.frozen 4
      have r5 := HF3.out.frozen 5
      simp only [List.getElem?_toArray, List.getElem?_cons_zero, List.getElem?_cons_succ] at g0 g1 g2 g3 g4 g5
      have x6 : (w3.alloc (.cells #[.string fp.ser.prod, .int .i64 fp.ser.kind, .int .i64 fp.ser.expiry, .int .i64 fp.ser.strike, .int .i64 fp.lo, .int .i64 fp.sh] 46)).cell? ⟨w.heap.size, 6, none⟩ = some (.int .i64 x.qty) := HX3.out.cell 6
      have n1 : ¬ w3.heap.size = w.heap.size := by have := HLT.out; omega
      have n2 : ¬ w.heap.size = w3.heap.size := by have := HLT.out; omega
      obtain ⟨wf, hwf⟩ : ∃ wf, w3.alloc (.cells #[.string fp.ser.prod, .int .i64 fp.ser.kind, .int .i64 fp.ser.expiry, .int .i64 fp.ser.strike, .int .i64 fp.lo, .int .i64 fp.sh] 46) = wf := ⟨_, rfl⟩
      rw [hwf] at g0 g1 g2 g3 g4 g5 r4 r5 x6 HB3 HI3 HX3 HF3 HBF
      have rd5 : ∀ k a b c d, (((((wf.drewN k).setCell ⟨w3.heap.size, 4, none⟩ a).setCell ⟨w3.heap.size, 5, none⟩ b).setCell ⟨w3.heap.size, 4, none⟩ c).setCell ⟨w3.heap.size, 5, none⟩ d).cell? ⟨w3.heap.size, 5, none⟩ = some d := fun k a b c d => by
        have h := (((((HF3.out.drewN k).set_ 4 a).set_ 5 b).set_ 4 c).set_ 5 d).cell 5
        simpa using h
      have HBS : Hid (∀ k a b, Below w3.heap.size w3 (((wf.drewN k).setCell ⟨w3.heap.size, 4, none⟩ a).setCell ⟨w3.heap.size, 5, none⟩ b)) := Lib.hid (fun k a b => ((below_drewN HBF.out k).setCell (p := ⟨w3.heap.size, 4, none⟩) (Nat.le_refl _) a).setCell (p := ⟨w3.heap.size, 5, none⟩) (Nat.le_refl _) b)
      have HBS4 : Hid (∀ k a b c d, Below w3.heap.size w3 (((((wf.drewN k).setCell ⟨w3.heap.size, 4, none⟩ a).setCell ⟨w3.heap.size, 5, none⟩ b).setCell ⟨w3.heap.size, 4, none⟩ c).setCell ⟨w3.heap.size, 5, none⟩ d)) := Lib.hid (fun k a b c d => ((HBS.out k a b).setCell (p := ⟨w3.heap.size, 4, none⟩) (Nat.le_refl _) c).setCell (p := ⟨w3.heap.size, 5, none⟩) (Nat.le_refl _) d)
      go_wp2_with fail
      go_quiet (fail)
      go_wp2_with fail
      go_quiet (fail)
      go_wp2_with fail
      refine (C6.out _ _ _ (by first | rfl | omega | (have h3 := HC3.out; omega)) (by first | rfl | omega | (have h3 := HC3.out; omega)) (HIa.out.below (by exact HBS4.out _ _ _ _ _))).mono ?_
      rintro e w5 ⟨v5, rfl, o5, b5⟩
      have HO5 := Lib.hid o5; have HB5 := Lib.hid b5
      clear o5 b5
      go_wp2_with fail
      go_ret2
      exact ⟨_, by rw [HE1.out] <;> rfl, by rw [HE2.out]; exact HO5.out.lower (by exact Nat.le_trans HBa.out.size (HBS4.out _ _ _ _ _).size), by exact HBa.out.trans (((HBS4.out _ _ _ _ _).trans (HB5.out.mono (HBS4.out _ _ _ _ _).size)).mono HBa.out.size)⟩
    · have hm2 : fp.lo < na := by omega
      have hcl3 : cl = fp.lo := by omega
      have HC3 := Lib.hid hcl3
      clear hcl2 hcl3
      go_enter Try.func30, Try.ntmps30
      go_wp2_with fail
      generalize w.alloc (.cells #[.string x.am, .string x.an, .string x.ser.prod, .int .i64 x.ser.kind, .int .i64 x.ser.expiry, .int .i64 x.ser.strike, .int .i64 x.qty, .int .i64 x.price, .int .i64 x.trade] 60) = w0 at *
      refine (C1.out _ HI0.out).mono ?_
      rintro e w1 ⟨rfl, b1⟩
      have HB1 := Lib.hid (HB0.out.trans (b1.mono HB0.out.size))
      have HI1 := Lib.hid (HI0.out.below b1)
      have HX1 := Lib.hid (HX0.out.below b1 HX0.out.lt)
      clear b1 HB0 HI0 HX0 C1 x2 x3 x4 x5 x6
      have x2 : w1.cell? ⟨w.heap.size, 2, none⟩ = some (.string x.ser.prod) := HX1.out.cell 2
      have x3 : w1.cell? ⟨w.heap.size, 3, none⟩ = some (.int .i64 x.ser.kind) := HX1.out.cell 3
      have x4 : w1.cell? ⟨w.heap.size, 4, none⟩ = some (.int .i64 x.ser.expiry) := HX1.out.cell 4
      have x5 : w1.cell? ⟨w.heap.size, 5, none⟩ = some (.int .i64 x.ser.strike) := HX1.out.cell 5
      have x6 : w1.cell? ⟨w.heap.size, 6, none⟩ = some (.int .i64 x.qty) := HX1.out.cell 6
      have xl1 := HX1.out.lt
      go_wp2_with fail
      refine (C2.out _).mono ?_
      rintro e w2 ⟨rfl, rfl⟩
      go_wp2_with fail
      refine (C3.out _).mono ?_
      rintro e w2 ⟨rfl, rfl⟩
      go_wp2_with fail
      refine (C4.out _ HI1.out).mono ?_
      rintro e w3 ⟨rfl, b3⟩
      have HXa := HX1.out.below b3 HX1.out.lt
      have HLT := Lib.hid HXa.lt
      have HB3 := Lib.hid (below_al (HB1.out.trans (b3.mono HB1.out.size)) (.cells #[.string fp.ser.prod, .int .i64 fp.ser.kind, .int .i64 fp.ser.expiry, .int .i64 fp.ser.strike, .int .i64 fp.lo, .int .i64 fp.sh] 46))
      have HI3 := Lib.hid ((HI1.out.below b3).below ((Below.refl w3.heap.size w3).alloc (Nat.le_refl _) (.cells #[.string fp.ser.prod, .int .i64 fp.ser.kind, .int .i64 fp.ser.expiry, .int .i64 fp.ser.strike, .int .i64 fp.lo, .int .i64 fp.sh] 46)))
      have HX3 := Lib.hid (HXa.alloc (.cells #[.string fp.ser.prod, .int .i64 fp.ser.kind, .int .i64 fp.ser.expiry, .int .i64 fp.ser.strike, .int .i64 fp.lo, .int .i64 fp.sh] 46))
      have HF3 := Lib.hid (CB.new w3 46 #[.string fp.ser.prod, .int .i64 fp.ser.kind, .int .i64 fp.ser.expiry, .int .i64 fp.ser.strike, .int .i64 fp.lo, .int .i64 fp.sh])
      have HBF := Lib.hid ((Below.refl w3.heap.size w3).alloc (Nat.le_refl _) (.cells #[.string fp.ser.prod, .int .i64 fp.ser.kind, .int .i64 fp.ser.expiry, .int .i64 fp.ser.strike, .int .i64 fp.lo, .int .i64 fp.sh] 46))
      have HIa := Lib.hid (HI1.out.below b3)
      have HBa := Lib.hid (HB1.out.trans (b3.mono HB1.out.size))
      clear b3 HB1 HI1 HX1 x2 x3 x4 x5 x6 xl1 HXa
      have g0 := HF3.out.cell 0
      have g1 := HF3.out.cell 1
      have g2 := HF3.out.cell 2
      have g3 := HF3.out.cell 3
      have g4 := HF3.out.cell 4
      have g5 := HF3.out.cell 5
      have r4 := HF3.out.frozen 4
      have r5 := HF3.out.frozen 5
      simp only [List.getElem?_toArray, List.getElem?_cons_zero, List.getElem?_cons_succ] at g0 g1 g2 g3 g4 g5
      have x6 : (w3.alloc (.cells #[.string fp.ser.prod, .int .i64 fp.ser.kind, .int .i64 fp.ser.expiry, .int .i64 fp.ser.strike, .int .i64 fp.lo, .int .i64 fp.sh] 46)).cell? ⟨w.heap.size, 6, none⟩ = some (.int .i64 x.qty) := HX3.out.cell 6
      have n1 : ¬ w3.heap.size = w.heap.size := by have := HLT.out; omega
      have n2 : ¬ w.heap.size = w3.heap.size := by have := HLT.out; omega
      obtain ⟨wf, hwf⟩ : ∃ wf, w3.alloc (.cells #[.string fp.ser.prod, .int .i64 fp.ser.kind, .int .i64 fp.ser.expiry, .int .i64 fp.ser.strike, .int .i64 fp.lo, .int .i64 fp.sh] 46) = wf := ⟨_, rfl⟩
      rw [hwf] at g0 g1 g2 g3 g4 g5 r4 r5 x6 HB3 HI3 HX3 HF3 HBF
      have rd5 : ∀ k a b c d, (((((wf.drewN k).setCell ⟨w3.heap.size, 4, none⟩ a).setCell ⟨w3.heap.size, 5, none⟩ b).setCell ⟨w3.heap.size, 4, none⟩ c).setCell ⟨w3.heap.size, 5, none⟩ d).cell? ⟨w3.heap.size, 5, none⟩ = some d := fun k a b c d => by
        have h := (((((HF3.out.drewN k).set_ 4 a).set_ 5 b).set_ 4 c).set_ 5 d).cell 5
        simpa using h
      have HBS : Hid (∀ k a b, Below w3.heap.size w3 (((wf.drewN k).setCell ⟨w3.heap.size, 4, none⟩ a).setCell ⟨w3.heap.size, 5, none⟩ b)) := Lib.hid (fun k a b => ((below_drewN HBF.out k).setCell (p := ⟨w3.heap.size, 4, none⟩) (Nat.le_refl _) a).setCell (p := ⟨w3.heap.size, 5, none⟩) (Nat.le_refl _) b)
      have HBS4 : Hid (∀ k a b c d, Below w3.heap.size w3 (((((wf.drewN k).setCell ⟨w3.heap.size, 4, none⟩ a).setCell ⟨w3.heap.size, 5, none⟩ b).setCell ⟨w3.heap.size, 4, none⟩ c).setCell ⟨w3.heap.size, 5, none⟩ d)) := Lib.hid (fun k a b c d => ((HBS.out k a b).setCell (p := ⟨w3.heap.size, 4, none⟩) (Nat.le_refl _) c).setCell (p := ⟨w3.heap.size, 5, none⟩) (Nat.le_refl _) d)
      go_wp2_with fail
      go_quiet (fail)
      go_wp2_with fail
      go_quiet (fail)
      go_wp2_with fail
      refine (C6.out _ _ _ (by first | rfl | omega | (have h3 := HC3.out; omega)) (by first | rfl | omega | (have h3 := HC3.out; omega)) (HIa.out.below (by exact HBS4.out _ _ _ _ _))).mono ?_
      rintro e w5 ⟨v5, rfl, o5, b5⟩
      have HO5 := Lib.hid o5; have HB5 := Lib.hid b5
      clear o5 b5
      go_wp2_with fail
      go_ret2
      exact ⟨_, by rw [HE1.out] <;> rfl, by rw [HE2.out]; exact HO5.out.lower (by exact Nat.le_trans HBa.out.size (HBS4.out _ _ _ _ _).size), by exact HBa.out.trans (((HBS4.out _ _ _ _ _).trans (HB5.out.mono (HBS4.out _ _ _ _ _).size)).mono HBa.out.size)⟩
end Go.Proofs.Ytdhkflmodcgooaa

/- Contracts of layer 15's reference: Apply, bought. -/
namespace Go.Proofs.Ytdhkflmodcgooaa
open Go.RowKit Go.Recs
set_option linter.unusedVariables false
set_option linter.unusedSimpArgs false
set_option maxHeartbeats 16000000 in
set_option maxRecDepth 100000 in
theorem rapply15_pos (A : Option Addr) (l : List PO.Pos) (n cap : Nat) (hn : n = l.length) (kind : Int) (x : NM.Leg) (closes : Int) (w : World) (hI : Poss w A l) (hc : PO.checkE l = 0) (hl : PO.legE kind x.qty closes = 0) (hneg : ¬ x.qty < 0) :
    Calls Try.prog 30 #[.slice A n cap, .int .i64 kind, legA x, .int .i64 closes] w fun e w' => ∃ v, e = .returned (.tuple #[v, .int .i64 (PO.applyE l kind x.ser x.qty closes)]) ∧ OwnR w' w.heap.size 46 6 v ((PO.applyL l kind x.ser x.qty closes).map posV) ∧ Below w.heap.size w w' := by
  subst hn
  have hlen := hI.len
  have HB0 := Lib.hid (below_al (Below.refl w.heap.size w) (.cells (legC x) 60))
  have HX0 := Lib.hid (CB.new w 60 (legC x))
  have HI0 := Lib.hid (hI.below HB0.out)
  have C1 := Lib.hid (fun ww h => rcheck15_any A l l.length cap rfl ww h)
  have C2 := Lib.hid (fun ww => rkind15_any kind ww)
  have x2 : (w.alloc (.cells (legC x) 60)).cell? ⟨w.heap.size, 2, none⟩ = some (.string x.ser.prod) := HX0.out.cell 2
  have x3 : (w.alloc (.cells (legC x) 60)).cell? ⟨w.heap.size, 3, none⟩ = some (.int .i64 x.ser.kind) := HX0.out.cell 3
  have x4 : (w.alloc (.cells (legC x) 60)).cell? ⟨w.heap.size, 4, none⟩ = some (.int .i64 x.ser.expiry) := HX0.out.cell 4
  have x5 : (w.alloc (.cells (legC x) 60)).cell? ⟨w.heap.size, 5, none⟩ = some (.int .i64 x.ser.strike) := HX0.out.cell 5
  have x6 : (w.alloc (.cells (legC x) 60)).cell? ⟨w.heap.size, 6, none⟩ = some (.int .i64 x.qty) := HX0.out.cell 6
  clear hI
  have hl128 : l.length ≤ 1048576 := by have := (PO.check_good hc).1; omega
  obtain ⟨_, _, hg⟩ := PO.check_good hc
  rw [hc] at C1
  obtain ⟨hk, hqq, hcl⟩ := PO.leg_parts hl
  rw [show (decide (1 ≤ kind) && decide (kind ≤ 3)) = true by simp [hk]] at C2
  have z1 : (x.qty == 0) = false := by simp; omega
  have z2 : decide (x.qty < -1048576) = false := decide_eq_false (by omega)
  have z3 : decide (1048576 < x.qty) = false := decide_eq_false (by omega)
  have C3 := Lib.hid (fun ww => rsize15_any x.qty (by omega) ww)
  have hfl := PO.find_lots hg x.ser
  obtain ⟨_, k1, k2⟩ := PO.clo_ok hg hl x.ser
  have HPUT := Lib.hid (@PO.apply_put l kind x.ser x.qty closes hc hl)
  have HOPN := Lib.hid (@PO.apply_open l kind x.ser x.qty closes hc hl)
  have C4 := Lib.hid (fun ww h => rfind15_any A l l.length cap rfl x.ser ww h)
  have C5 := Lib.hid (fun p ww h => rput15_any A l l.length cap rfl hl128 p ww h)
  have HNP : Hid (PO.newP l kind x.ser x.qty closes = PO.chg (PO.findP l x.ser) x.qty (PO.cloS kind x.qty closes (PO.findP l x.ser))) := Lib.hid rfl
  have HCL : Hid ((kind = 3 → PO.cloS kind x.qty closes (PO.findP l x.ser) = closes) ∧ (¬ kind = 3 → PO.cloS kind x.qty closes (PO.findP l x.ser) = min (PO.absI x.qty) (PO.othS (PO.findP l x.ser) x.qty))) := Lib.hid ⟨fun h => by unfold PO.cloS; rw [if_pos h], fun h => by unfold PO.cloS; rw [if_neg h]⟩
  have hab : 0 ≤ PO.absI x.qty ∧ PO.absI x.qty ≤ 1048576 := by unfold PO.absI; split <;> omega
  obtain ⟨ab1, ab2⟩ := hab
  obtain ⟨⟨f1, f2⟩, f3, f4⟩ := hfl
  have HPA : Hid (∀ q : PO.Pos, posA q = .agg #[.string q.ser.prod, .int .i64 q.ser.kind, .int .i64 q.ser.expiry, .int .i64 q.ser.strike, .int .i64 q.lo, .int .i64 q.sh]) := Lib.hid (fun q => rfl)
  generalize PO.applyE l kind x.ser x.qty closes = ae at *
  generalize PO.applyL l kind x.ser x.qty closes = al at *
  generalize PO.cloS kind x.qty closes (PO.findP l x.ser) = cl at *
  generalize PO.newP l kind x.ser x.qty closes = np at *
  generalize PO.findP l x.ser = fp at *
  clear hl hc hg hqq
  have z6 : decide (x.qty < 0) = false := decide_eq_false hneg
  have HN : Hid (np = ⟨fp.ser, fp.lo + (PO.absI x.qty - cl), fp.sh - cl⟩) := Lib.hid (by rw [HNP.out]; unfold PO.chg; rw [if_neg hneg])
  have HOT : Hid (PO.othS fp x.qty = fp.sh) := Lib.hid (by unfold PO.othS; rw [if_neg hneg])
  have C6 : Hid (∀ (a b : Int) (ww : World), a = fp.lo + (PO.absI x.qty - cl) → b = fp.sh - cl → Poss ww A l → Calls Try.prog 62 #[.slice A l.length cap, .agg #[.string fp.ser.prod, .int .i64 fp.ser.kind, .int .i64 fp.ser.expiry, .int .i64 fp.ser.strike, .int .i64 a, .int .i64 b]] ww fun e w' => ∃ v, e = .returned (.tuple #[v, .int .i64 (PO.putE l np)]) ∧ OwnR w' ww.heap.size 46 6 v ((PO.putR l np).map posV) ∧ Below ww.heap.size ww w') := Lib.hid (fun a b ww ha hb h => by
    have := C5.out np ww h
    rw [HPA.out, HN.out] at this
    rw [ha, hb, HN.out]
    exact this)
  rw [HOT.out] at HPUT HOPN HCL
  generalize PO.absI x.qty = na at *
  generalize PO.putE l np = pe at *
  generalize PO.putR l np = pr at *
  clear HNP HN HOT C5 HPA
  by_cases hk3 : kind = 3
  · have z7 : (kind == 3) = true := by simp [hk3]
    have z8 : (kind != 3) = false := by simp [hk3]
    obtain rfl : cl = closes := HCL.out.1 hk3
    have c0 : ¬ cl < 0 := by omega
    have z9 : decide (cl < 0) = false := decide_eq_false c0
    have z10 : decide (na < cl) = false := decide_eq_false (by omega)
    clear hcl hk3 HCL hk
    by_cases ho : fp.sh < cl
    · obtain ⟨e1, e2⟩ := HOPN.out ho
      have HE1 := Lib.hid e1; have HE2 := Lib.hid e2
      clear e1 e2 HOPN HPUT
      go_enter Try.func30, Try.ntmps30
      go_wp2_with fail
      generalize w.alloc (.cells #[.string x.am, .string x.an, .string x.ser.prod, .int .i64 x.ser.kind, .int .i64 x.ser.expiry, .int .i64 x.ser.strike, .int .i64 x.qty, .int .i64 x.price, .int .i64 x.trade] 60) = w0 at *
      refine (C1.out _ HI0.out).mono ?_
      rintro e w1 ⟨rfl, b1⟩
      have HB1 := Lib.hid (HB0.out.trans (b1.mono HB0.out.size))
      have HI1 := Lib.hid (HI0.out.below b1)
      have HX1 := Lib.hid (HX0.out.below b1 HX0.out.lt)
      clear b1 HB0 HI0 HX0 C1 x2 x3 x4 x5 x6
      have x2 : w1.cell? ⟨w.heap.size, 2, none⟩ = some (.string x.ser.prod) := HX1.out.cell 2
      have x3 : w1.cell? ⟨w.heap.size, 3, none⟩ = some (.int .i64 x.ser.kind) := HX1.out.cell 3
      have x4 : w1.cell? ⟨w.heap.size, 4, none⟩ = some (.int .i64 x.ser.expiry) := HX1.out.cell 4
      have x5 : w1.cell? ⟨w.heap.size, 5, none⟩ = some (.int .i64 x.ser.strike) := HX1.out.cell 5
      have x6 : w1.cell? ⟨w.heap.size, 6, none⟩ = some (.int .i64 x.qty) := HX1.out.cell 6
      have xl1 := HX1.out.lt
      go_wp2_with fail
      refine (C2.out _).mono ?_
      rintro e w2 ⟨rfl, rfl⟩
      go_wp2_with fail
      refine (C3.out _).mono ?_
      rintro e w2 ⟨rfl, rfl⟩
      go_wp2_with fail
      refine (C4.out _ HI1.out).mono ?_
      rintro e w3 ⟨rfl, b3⟩
      have HXa := HX1.out.below b3 HX1.out.lt
      have HLT := Lib.hid HXa.lt
      have HB3 := Lib.hid (below_al (HB1.out.trans (b3.mono HB1.out.size)) (.cells #[.string fp.ser.prod, .int .i64 fp.ser.kind, .int .i64 fp.ser.expiry, .int .i64 fp.ser.strike, .int .i64 fp.lo, .int .i64 fp.sh] 46))
      have HI3 := Lib.hid ((HI1.out.below b3).below ((Below.refl w3.heap.size w3).alloc (Nat.le_refl _) (.cells #[.string fp.ser.prod, .int .i64 fp.ser.kind, .int .i64 fp.ser.expiry, .int .i64 fp.ser.strike, .int .i64 fp.lo, .int .i64 fp.sh] 46)))
      have HX3 := Lib.hid (HXa.alloc (.cells #[.string fp.ser.prod, .int .i64 fp.ser.kind, .int .i64 fp.ser.expiry, .int .i64 fp.ser.strike, .int .i64 fp.lo, .int .i64 fp.sh] 46))
      have HF3 := Lib.hid (CB.new w3 46 #[.string fp.ser.prod, .int .i64 fp.ser.kind, .int .i64 fp.ser.expiry, .int .i64 fp.ser.strike, .int .i64 fp.lo, .int .i64 fp.sh])
      have HBF := Lib.hid ((Below.refl w3.heap.size w3).alloc (Nat.le_refl _) (.cells #[.string fp.ser.prod, .int .i64 fp.ser.kind, .int .i64 fp.ser.expiry, .int .i64 fp.ser.strike, .int .i64 fp.lo, .int .i64 fp.sh] 46))
      have HIa := Lib.hid (HI1.out.below b3)
      have HBa := Lib.hid (HB1.out.trans (b3.mono HB1.out.size))
      clear b3 HB1 HI1 HX1 x2 x3 x4 x5 x6 xl1 HXa
      have g0 := HF3.out.cell 0
      have g1 := HF3.out.cell 1
      have g2 := HF3.out.cell 2
      have g3 := HF3.out.cell 3
      have g4 := HF3.out.cell 4
      have g5 := HF3.out.cell 5
      have r4 := HF3.out.frozen 4
      have r5 := HF3.out.frozen 5
      simp only [List.getElem?_toArray, List.getElem?_cons_zero, List.getElem?_cons_succ] at g0 g1 g2 g3 g4 g5
      have x6 : (w3.alloc (.cells #[.string fp.ser.prod, .int .i64 fp.ser.kind, .int .i64 fp.ser.expiry, .int .i64 fp.ser.strike, .int .i64 fp.lo, .int .i64 fp.sh] 46)).cell? ⟨w.heap.size, 6, none⟩ = some (.int .i64 x.qty) := HX3.out.cell 6
      have n1 : ¬ w3.heap.size = w.heap.size := by have := HLT.out; omega
      have n2 : ¬ w.heap.size = w3.heap.size := by have := HLT.out; omega
      obtain ⟨wf, hwf⟩ : ∃ wf, w3.alloc (.cells #[.string fp.ser.prod, .int .i64 fp.ser.kind, .int .i64 fp.ser.expiry, .int .i64 fp.ser.strike, .int .i64 fp.lo, .int .i64 fp.sh] 46) = wf := ⟨_, rfl⟩
      rw [hwf] at g0 g1 g2 g3 g4 g5 r4 r5 x6 HB3 HI3 HX3 HF3 HBF
      have rd5 : ∀ k a b c d, (((((wf.drewN k).setCell ⟨w3.heap.size, 4, none⟩ a).setCell ⟨w3.heap.size, 5, none⟩ b).setCell ⟨w3.heap.size, 4, none⟩ c).setCell ⟨w3.heap.size, 5, none⟩ d).cell? ⟨w3.heap.size, 5, none⟩ = some d := fun k a b c d => by
        have h := (((((HF3.out.drewN k).set_ 4 a).set_ 5 b).set_ 4 c).set_ 5 d).cell 5
        simpa using h
      have HBS : Hid (∀ k a b, Below w3.heap.size w3 (((wf.drewN k).setCell ⟨w3.heap.size, 4, none⟩ a).setCell ⟨w3.heap.size, 5, none⟩ b)) := Lib.hid (fun k a b => ((below_drewN HBF.out k).setCell (p := ⟨w3.heap.size, 4, none⟩) (Nat.le_refl _) a).setCell (p := ⟨w3.heap.size, 5, none⟩) (Nat.le_refl _) b)
      have HBS4 : Hid (∀ k a b c d, Below w3.heap.size w3 (((((wf.drewN k).setCell ⟨w3.heap.size, 4, none⟩ a).setCell ⟨w3.heap.size, 5, none⟩ b).setCell ⟨w3.heap.size, 4, none⟩ c).setCell ⟨w3.heap.size, 5, none⟩ d)) := Lib.hid (fun k a b c d => ((HBS.out k a b).setCell (p := ⟨w3.heap.size, 4, none⟩) (Nat.le_refl _) c).setCell (p := ⟨w3.heap.size, 5, none⟩) (Nat.le_refl _) d)
      go_wp2_with fail
      go_quiet (fail)
      go_wp2_with fail
      go_ret2
      exact ⟨_, by rw [HE1.out] <;> rfl, by rw [HE2.out]; exact OwnR.nil _ _ _ _, by first | exact below_drewN HB3.out _ | exact HB3.out⟩
    · obtain ⟨e1, e2⟩ := HPUT.out ho
      have HE1 := Lib.hid e1; have HE2 := Lib.hid e2
      clear e1 e2 HOPN HPUT
      go_enter Try.func30, Try.ntmps30
      go_wp2_with fail
      generalize w.alloc (.cells #[.string x.am, .string x.an, .string x.ser.prod, .int .i64 x.ser.kind, .int .i64 x.ser.expiry, .int .i64 x.ser.strike, .int .i64 x.qty, .int .i64 x.price, .int .i64 x.trade] 60) = w0 at *
      refine (C1.out _ HI0.out).mono ?_
      rintro e w1 ⟨rfl, b1⟩
      have HB1 := Lib.hid (HB0.out.trans (b1.mono HB0.out.size))
      have HI1 := Lib.hid (HI0.out.below b1)
      have HX1 := Lib.hid (HX0.out.below b1 HX0.out.lt)
      clear b1 HB0 HI0 HX0 C1 x2 x3 x4 x5 x6
      have x2 : w1.cell? ⟨w.heap.size, 2, none⟩ = some (.string x.ser.prod) := HX1.out.cell 2
      have x3 : w1.cell? ⟨w.heap.size, 3, none⟩ = some (.int .i64 x.ser.kind) := HX1.out.cell 3
      have x4 : w1.cell? ⟨w.heap.size, 4, none⟩ = some (.int .i64 x.ser.expiry) := HX1.out.cell 4
      have x5 : w1.cell? ⟨w.heap.size, 5, none⟩ = some (.int .i64 x.ser.strike) := HX1.out.cell 5
      have x6 : w1.cell? ⟨w.heap.size, 6, none⟩ = some (.int .i64 x.qty) := HX1.out.cell 6
      have xl1 := HX1.out.lt
      go_wp2_with fail
      refine (C2.out _).mono ?_
      rintro e w2 ⟨rfl, rfl⟩
      go_wp2_with fail
      refine (C3.out _).mono ?_
      rintro e w2 ⟨rfl, rfl⟩
      go_wp2_with fail
      refine (C4.out _ HI1.out).mono ?_
      rintro e w3 ⟨rfl, b3⟩
      have HXa := HX1.out.below b3 HX1.out.lt
      have HLT := Lib.hid HXa.lt
      have HB3 := Lib.hid (below_al (HB1.out.trans (b3.mono HB1.out.size)) (.cells #[.string fp.ser.prod, .int .i64 fp.ser.kind, .int .i64 fp.ser.expiry, .int .i64 fp.ser.strike, .int .i64 fp.lo, .int .i64 fp.sh] 46))
      have HI3 := Lib.hid ((HI1.out.below b3).below ((Below.refl w3.heap.size w3).alloc (Nat.le_refl _) (.cells #[.string fp.ser.prod, .int .i64 fp.ser.kind, .int .i64 fp.ser.expiry, .int .i64 fp.ser.strike, .int .i64 fp.lo, .int .i64 fp.sh] 46)))
      have HX3 := Lib.hid (HXa.alloc (.cells #[.string fp.ser.prod, .int .i64 fp.ser.kind, .int .i64 fp.ser.expiry, .int .i64 fp.ser.strike, .int .i64 fp.lo, .int .i64 fp.sh] 46))
      have HF3 := Lib.hid (CB.new w3 46 #[.string fp.ser.prod, .int .i64 fp.ser.kind, .int .i64 fp.ser.expiry, .int .i64 fp.ser.strike, .int .i64 fp.lo, .int .i64 fp.sh])
      have HBF := Lib.hid ((Below.refl w3.heap.size w3).alloc (Nat.le_refl _) (.cells #[.string fp.ser.prod, .int .i64 fp.ser.kind, .int .i64 fp.ser.expiry, .int .i64 fp.ser.strike, .int .i64 fp.lo, .int .i64 fp.sh] 46))
      have HIa := Lib.hid (HI1.out.below b3)
      have HBa := Lib.hid (HB1.out.trans (b3.mono HB1.out.size))
      clear b3 HB1 HI1 HX1 x2 x3 x4 x5 x6 xl1 HXa
      have g0 := HF3.out.cell 0
      have g1 := HF3.out.cell 1
      have g2 := HF3.out.cell 2
      have g3 := HF3.out.cell 3
      have g4 := HF3.out.cell 4
      have g5 := HF3.out.cell 5
      have r4 := HF3.out.frozen 4
      have r5 := HF3.out.frozen 5
      simp only [List.getElem?_toArray, List.getElem?_cons_zero, List.getElem?_cons_succ] at g0 g1 g2 g3 g4 g5
      have x6 : (w3.alloc (.cells #[.string fp.ser.prod, .int .i64 fp.ser.kind, .int .i64 fp.ser.expiry, .int .i64 fp.ser.strike, .int .i64 fp.lo, .int .i64 fp.sh] 46)).cell? ⟨w.heap.size, 6, none⟩ = some (.int .i64 x.qty) := HX3.out.cell 6
      have n1 : ¬ w3.heap.size = w.heap.size := by have := HLT.out; omega
      have n2 : ¬ w.heap.size = w3.heap.size := by have := HLT.out; omega
      obtain ⟨wf, hwf⟩ : ∃ wf, w3.alloc (.cells #[.string fp.ser.prod, .int .i64 fp.ser.kind, .int .i64 fp.ser.expiry, .int .i64 fp.ser.strike, .int .i64 fp.lo, .int .i64 fp.sh] 46) = wf := ⟨_, rfl⟩
      rw [hwf] at g0 g1 g2 g3 g4 g5 r4 r5 x6 HB3 HI3 HX3 HF3 HBF
      have rd5 : ∀ k a b c d, (((((wf.drewN k).setCell ⟨w3.heap.size, 4, none⟩ a).setCell ⟨w3.heap.size, 5, none⟩ b).setCell ⟨w3.heap.size, 4, none⟩ c).setCell ⟨w3.heap.size, 5, none⟩ d).cell? ⟨w3.heap.size, 5, none⟩ = some d := fun k a b c d => by
        have h := (((((HF3.out.drewN k).set_ 4 a).set_ 5 b).set_ 4 c).set_ 5 d).cell 5
        simpa using h
      have HBS : Hid (∀ k a b, Below w3.heap.size w3 (((wf.drewN k).setCell ⟨w3.heap.size, 4, none⟩ a).setCell ⟨w3.heap.size, 5, none⟩ b)) := Lib.hid (fun k a b => ((below_drewN HBF.out k).setCell (p := ⟨w3.heap.size, 4, none⟩) (Nat.le_refl _) a).setCell (p := ⟨w3.heap.size, 5, none⟩) (Nat.le_refl _) b)
      have HBS4 : Hid (∀ k a b c d, Below w3.heap.size w3 (((((wf.drewN k).setCell ⟨w3.heap.size, 4, none⟩ a).setCell ⟨w3.heap.size, 5, none⟩ b).setCell ⟨w3.heap.size, 4, none⟩ c).setCell ⟨w3.heap.size, 5, none⟩ d)) := Lib.hid (fun k a b c d => ((HBS.out k a b).setCell (p := ⟨w3.heap.size, 4, none⟩) (Nat.le_refl _) c).setCell (p := ⟨w3.heap.size, 5, none⟩) (Nat.le_refl _) d)
      go_wp2_with fail
      go_quiet (fail)
      go_wp2_with fail
      refine (C6.out _ _ _ (by first | rfl | omega | (have h3 := HC3.out; omega)) (by first | rfl | omega | (have h3 := HC3.out; omega)) (HIa.out.below (by exact HBS.out _ _ _))).mono ?_
      rintro e w5 ⟨v5, rfl, o5, b5⟩
      have HO5 := Lib.hid o5; have HB5 := Lib.hid b5
      clear o5 b5
      go_wp2_with fail
      go_ret2
      exact ⟨_, by rw [HE1.out] <;> rfl, by rw [HE2.out]; exact HO5.out.lower (by exact Nat.le_trans HBa.out.size (HBS.out _ _ _).size), by exact HBa.out.trans (((HBS.out _ _ _).trans (HB5.out.mono (HBS.out _ _ _).size)).mono HBa.out.size)⟩
  · have z7 : (kind == 3) = false := by simpa using hk3
    have z8 : (kind != 3) = true := by simpa using hk3
    have hcl2 := HCL.out.2 hk3
    obtain ⟨e1, e2⟩ := HPUT.out (by omega)
    have HE1 := Lib.hid e1; have HE2 := Lib.hid e2
    clear e1 e2 HOPN HPUT hcl hk3 HCL hk
    by_cases hm : na ≤ fp.sh
    · obtain rfl : cl = na := by omega
      clear hcl2
      go_enter Try.func30, Try.ntmps30
      go_wp2_with fail
      generalize w.alloc (.cells #[.string x.am, .string x.an, .string x.ser.prod, .int .i64 x.ser.kind, .int .i64 x.ser.expiry, .int .i64 x.ser.strike, .int .i64 x.qty, .int .i64 x.price, .int .i64 x.trade] 60) = w0 at *
      refine (C1.out _ HI0.out).mono ?_
      rintro e w1 ⟨rfl, b1⟩
      have HB1 := Lib.hid (HB0.out.trans (b1.mono HB0.out.size))
      have HI1 := Lib.hid (HI0.out.below b1)
      have HX1 := Lib.hid (HX0.out.below b1 HX0.out.lt)
      clear b1 HB0 HI0 HX0 C1 x2 x3 x4 x5 x6
      have x2 : w1.cell? ⟨w.heap.size, 2, none⟩ = some (.string x.ser.prod) := HX1.out.cell 2
      have x3 : w1.cell? ⟨w.heap.size, 3, none⟩ = some (.int .i64 x.ser.kind) := HX1.out.cell 3
      have x4 : w1.cell? ⟨w.heap.size, 4, none⟩ = some (.int .i64 x.ser.expiry) := HX1.out.cell 4
      have x5 : w1.cell? ⟨w.heap.size, 5, none⟩ = some (.int .i64 x.ser.strike) := HX1.out.cell 5
      have x6 : w1.cell? ⟨w.heap.size, 6, none⟩ = some (.int .i64 x.qty) := HX1.out.cell 6
      have xl1 := HX1.out.lt
      go_wp2_with fail
      refine (C2.out _).mono ?_
      rintro e w2 ⟨rfl, rfl⟩
      go_wp2_with fail
      refine (C3.out _).mono ?_
      rintro e w2 ⟨rfl, rfl⟩
      go_wp2_with fail
      refine (C4.out _ HI1.out).mono ?_
      rintro e w3 ⟨rfl, b3⟩
      have HXa := HX1.out.below b3 HX1.out.lt
      have HLT := Lib.hid HXa.lt
      have HB3 := Lib.hid (below_al (HB1.out.trans (b3.mono HB1.out.size)) (.cells #[.string fp.ser.prod, .int .i64 fp.ser.kind, .int .i64 fp.ser.expiry, .int .i64 fp.ser.strike, .int .i64 fp.lo, .int .i64 fp.sh] 46))
      have HI3 := Lib.hid ((HI1.out.below b3).below ((Below.refl w3.heap.size w3).alloc (Nat.le_refl _) (.cells #[.string fp.ser.prod, .int .i64 fp.ser.kind, .int .i64 fp.ser.expiry, .int .i64 fp.ser.strike, .int .i64 fp.lo, .int .i64 fp.sh] 46)))
      have HX3 := Lib.hid (HXa.alloc (.cells #[.string fp.ser.prod, .int .i64 fp.ser.kind, .int .i64 fp.ser.expiry, .int .i64 fp.ser.strike, .int .i64 fp.lo, .int .i64 fp.sh] 46))
      have HF3 := Lib.hid (CB.new w3 46 #[.string fp.ser.prod, .int .i64 fp.ser.kind, .int .i64 fp.ser.expiry, .int .i64 fp.ser.strike, .int .i64 fp.lo, .int .i64 fp.sh])
      have HBF := Lib.hid ((Below.refl w3.heap.size w3).alloc (Nat.le_refl _) (.cells #[.string fp.ser.prod, .int .i64 fp.ser.kind, .int .i64 fp.ser.expiry, .int .i64 fp.ser.strike, .int .i64 fp.lo, .int .i64 fp.sh] 46))
      have HIa := Lib.hid (HI1.out.below b3)
      have HBa := Lib.hid (HB1.out.trans (b3.mono HB1.out.size))
      clear b3 HB1 HI1 HX1 x2 x3 x4 x5 x6 xl1 HXa
      have g0 := HF3.out.cell 0
      have g1 := HF3.out.cell 1
      have g2 := HF3.out.cell 2
      have g3 := HF3.out.cell 3
      have g4 := HF3.out.cell 4
      have g5 := HF3.out.cell 5
      have r4 := HF3.out.frozen 4
      have r5 := HF3.out.frozen 5
      simp only [List.getElem?_toArray, List.getElem?_cons_zero, List.getElem?_cons_succ] at g0 g1 g2 g3 g4 g5
      have x6 : (w3.alloc (.cells #[.string fp.ser.prod, .int .i64 fp.ser.kind, .int .i64 fp.ser.expiry, .int .i64 fp.ser.strike, .int .i64 fp.lo, .int .i64 fp.sh] 46)).cell? ⟨w.heap.size, 6, none⟩ = some (.int .i64 x.qty) := HX3.out.cell 6
      have n1 : ¬ w3.heap.size = w.heap.size := by have := HLT.out; omega
      have n2 : ¬ w.heap.size = w3.heap.size := by have := HLT.out; omega
      obtain ⟨wf, hwf⟩ : ∃ wf, w3.alloc (.cells #[.string fp.ser.prod, .int .i64 fp.ser.kind, .int .i64 fp.ser.expiry, .int .i64 fp.ser.strike, .int .i64 fp.lo, .int .i64 fp.sh] 46) = wf := ⟨_, rfl⟩
      rw [hwf] at g0 g1 g2 g3 g4 g5 r4 r5 x6 HB3 HI3 HX3 HF3 HBF
      have rd5 : ∀ k a b c d, (((((wf.drewN k).setCell ⟨w3.heap.size, 4, none⟩ a).setCell ⟨w3.heap.size, 5, none⟩ b).setCell ⟨w3.heap.size, 4, none⟩ c).setCell ⟨w3.heap.size, 5, none⟩ d).cell? ⟨w3.heap.size, 5, none⟩ = some d := fun k a b c d => by
        have h := (((((HF3.out.drewN k).set_ 4 a).set_ 5 b).set_ 4 c).set_ 5 d).cell 5
        simpa using h
      have HBS : Hid (∀ k a b, Below w3.heap.size w3 (((wf.drewN k).setCell ⟨w3.heap.size, 4, none⟩ a).setCell ⟨w3.heap.size, 5, none⟩ b)) := Lib.hid (fun k a b => ((below_drewN HBF.out k).setCell (p := ⟨w3.heap.size, 4, none⟩) (Nat.le_refl _) a).setCell (p := ⟨w3.heap.size, 5, none⟩) (Nat.le_refl _) b)
      have HBS4 : Hid (∀ k a b c d, Below w3.heap.size w3 (((((wf.drewN k).setCell ⟨w3.heap.size, 4, none⟩ a).setCell ⟨w3.heap.size, 5, none⟩ b).setCell ⟨w3.heap.size, 4, none⟩ c).setCell ⟨w3.heap.size, 5, none⟩ d)) := Lib.hid (fun k a b c d => ((HBS.out k a b).setCell (p := ⟨w3.heap.size, 4, none⟩) (Nat.le_refl _) c).setCell (p := ⟨w3.heap.size, 5, none⟩) (Nat.le_refl _) d)
      go_wp2_with fail
      go_quiet (fail)
      go_wp2_with fail
      refine (C6.out _ _ _ (by first | rfl | omega | (have h3 := HC3.out; omega)) (by first | rfl | omega | (have h3 := HC3.out; omega)) (HIa.out.below (by exact HBS.out _ _ _))).mono ?_
      rintro e w5 ⟨v5, rfl, o5, b5⟩
      have HO5 := Lib.hid o5; have HB5 := Lib.hid b5
      clear o5 b5
      go_wp2_with fail
      go_ret2
      exact ⟨_, by rw [HE1.out] <;> rfl, by rw [HE2.out]; exact HO5.out.lower (by exact Nat.le_trans HBa.out.size (HBS.out _ _ _).size), by exact HBa.out.trans (((HBS.out _ _ _).trans (HB5.out.mono (HBS.out _ _ _).size)).mono HBa.out.size)⟩
    · have hm2 : fp.sh < na := by omega
      have hcl3 : cl = fp.sh := by omega
      have HC3 := Lib.hid hcl3
      clear hcl2 hcl3
      go_enter Try.func30, Try.ntmps30
      go_wp2_with fail
      generalize w.alloc (.cells #[.string x.am, .string x.an, .string x.ser.prod, .int .i64 x.ser.kind, .int .i64 x.ser.expiry, .int .i64 x.ser.strike, .int .i64 x.qty, .int .i64 x.price, .int .i64 x.trade] 60) = w0 at *
      refine (C1.out _ HI0.out).mono ?_
      rintro e w1 ⟨rfl, b1⟩
      have HB1 := Lib.hid (HB0.out.trans (b1.mono HB0.out.size))
      have HI1 := Lib.hid (HI0.out.below b1)
      have HX1 := Lib.hid (HX0.out.below b1 HX0.out.lt)
      clear b1 HB0 HI0 HX0 C1 x2 x3 x4 x5 x6
      have x2 : w1.cell? ⟨w.heap.size, 2, none⟩ = some (.string x.ser.prod) := HX1.out.cell 2
      have x3 : w1.cell? ⟨w.heap.size, 3, none⟩ = some (.int .i64 x.ser.kind) := HX1.out.cell 3
      have x4 : w1.cell? ⟨w.heap.size, 4, none⟩ = some (.int .i64 x.ser.expiry) := HX1.out.cell 4
      have x5 : w1.cell? ⟨w.heap.size, 5, none⟩ = some (.int .i64 x.ser.strike) := HX1.out.cell 5
      have x6 : w1.cell? ⟨w.heap.size, 6, none⟩ = some (.int .i64 x.qty) := HX1.out.cell 6
      have xl1 := HX1.out.lt
      go_wp2_with fail
      refine (C2.out _).mono ?_
      rintro e w2 ⟨rfl, rfl⟩
      go_wp2_with fail
      refine (C3.out _).mono ?_
      rintro e w2 ⟨rfl, rfl⟩
      go_wp2_with fail
      refine (C4.out _ HI1.out).mono ?_
      rintro e w3 ⟨rfl, b3⟩
      have HXa := HX1.out.below b3 HX1.out.lt
      have HLT := Lib.hid HXa.lt
      have HB3 := Lib.hid (below_al (HB1.out.trans (b3.mono HB1.out.size)) (.cells #[.string fp.ser.prod, .int .i64 fp.ser.kind, .int .i64 fp.ser.expiry, .int .i64 fp.ser.strike, .int .i64 fp.lo, .int .i64 fp.sh] 46))
      have HI3 := Lib.hid ((HI1.out.below b3).below ((Below.refl w3.heap.size w3).alloc (Nat.le_refl _) (.cells #[.string fp.ser.prod, .int .i64 fp.ser.kind, .int .i64 fp.ser.expiry, .int .i64 fp.ser.strike, .int .i64 fp.lo, .int .i64 fp.sh] 46)))
      have HX3 := Lib.hid (HXa.alloc (.cells #[.string fp.ser.prod, .int .i64 fp.ser.kind, .int .i64 fp.ser.expiry, .int .i64 fp.ser.strike, .int .i64 fp.lo, .int .i64 fp.sh] 46))
      have HF3 := Lib.hid (CB.new w3 46 #[.string fp.ser.prod, .int .i64 fp.ser.kind, .int .i64 fp.ser.expiry, .int .i64 fp.ser.strike, .int .i64 fp.lo, .int .i64 fp.sh])
      have HBF := Lib.hid ((Below.refl w3.heap.size w3).alloc (Nat.le_refl _) (.cells #[.string fp.ser.prod, .int .i64 fp.ser.kind, .int .i64 fp.ser.expiry, .int .i64 fp.ser.strike, .int .i64 fp.lo, .int .i64 fp.sh] 46))
      have HIa := Lib.hid (HI1.out.below b3)
      have HBa := Lib.hid (HB1.out.trans (b3.mono HB1.out.size))
      clear b3 HB1 HI1 HX1 x2 x3 x4 x5 x6 xl1 HXa
      have g0 := HF3.out.cell 0
      have g1 := HF3.out.cell 1
      have g2 := HF3.out.cell 2
      have g3 := HF3.out.cell 3
      have g4 := HF3.out.cell 4
      have g5 := HF3.out.cell 5
      have r4 := HF3.out.frozen 4
      have r5 := HF3.out.frozen 5
      simp only [List.getElem?_toArray, List.getElem?_cons_zero, List.getElem?_cons_succ] at g0 g1 g2 g3 g4 g5
      have x6 : (w3.alloc (.cells #[.string fp.ser.prod, .int .i64 fp.ser.kind, .int .i64 fp.ser.expiry, .int .i64 fp.ser.strike, .int .i64 fp.lo, .int .i64 fp.sh] 46)).cell? ⟨w.heap.size, 6, none⟩ = some (.int .i64 x.qty) := HX3.out.cell 6
      have n1 : ¬ w3.heap.size = w.heap.size := by have := HLT.out; omega
      have n2 : ¬ w.heap.size = w3.heap.size := by have := HLT.out; omega
      obtain ⟨wf, hwf⟩ : ∃ wf, w3.alloc (.cells #[.string fp.ser.prod, .int .i64 fp.ser.kind, .int .i64 fp.ser.expiry, .int .i64 fp.ser.strike, .int .i64 fp.lo, .int .i64 fp.sh] 46) = wf := ⟨_, rfl⟩
      rw [hwf] at g0 g1 g2 g3 g4 g5 r4 r5 x6 HB3 HI3 HX3 HF3 HBF
      have rd5 : ∀ k a b c d, (((((wf.drewN k).setCell ⟨w3.heap.size, 4, none⟩ a).setCell ⟨w3.heap.size, 5, none⟩ b).setCell ⟨w3.heap.size, 4, none⟩ c).setCell ⟨w3.heap.size, 5, none⟩ d).cell? ⟨w3.heap.size, 5, none⟩ = some d := fun k a b c d => by
        have h := (((((HF3.out.drewN k).set_ 4 a).set_ 5 b).set_ 4 c).set_ 5 d).cell 5
        simpa using h
      have HBS : Hid (∀ k a b, Below w3.heap.size w3 (((wf.drewN k).setCell ⟨w3.heap.size, 4, none⟩ a).setCell ⟨w3.heap.size, 5, none⟩ b)) := Lib.hid (fun k a b => ((below_drewN HBF.out k).setCell (p := ⟨w3.heap.size, 4, none⟩) (Nat.le_refl _) a).setCell (p := ⟨w3.heap.size, 5, none⟩) (Nat.le_refl _) b)
      have HBS4 : Hid (∀ k a b c d, Below w3.heap.size w3 (((((wf.drewN k).setCell ⟨w3.heap.size, 4, none⟩ a).setCell ⟨w3.heap.size, 5, none⟩ b).setCell ⟨w3.heap.size, 4, none⟩ c).setCell ⟨w3.heap.size, 5, none⟩ d)) := Lib.hid (fun k a b c d => ((HBS.out k a b).setCell (p := ⟨w3.heap.size, 4, none⟩) (Nat.le_refl _) c).setCell (p := ⟨w3.heap.size, 5, none⟩) (Nat.le_refl _) d)
      go_wp2_with fail
      go_quiet (fail)
      go_wp2_with fail
      refine (C6.out _ _ _ (by first | rfl | omega | (have h3 := HC3.out; omega)) (by first | rfl | omega | (have h3 := HC3.out; omega)) (HIa.out.below (by exact HBS.out _ _ _))).mono ?_
      rintro e w5 ⟨v5, rfl, o5, b5⟩
      have HO5 := Lib.hid o5; have HB5 := Lib.hid b5
      clear o5 b5
      go_wp2_with fail
      go_ret2
      exact ⟨_, by rw [HE1.out] <;> rfl, by rw [HE2.out]; exact HO5.out.lower (by exact Nat.le_trans HBa.out.size (HBS.out _ _ _).size), by exact HBa.out.trans (((HBS.out _ _ _).trans (HB5.out.mono (HBS.out _ _ _).size)).mono HBa.out.size)⟩
end Go.Proofs.Ytdhkflmodcgooaa
