/- Put together: PosM, PosN, PosOrd, WPositionOrder, SizedRec, OpenProd. -/
import Derived.Test.YthippdmfeeopkabBun11
import Derived.Test.YthippdmfeeopkabBun1
import Derived.SizedLaws
import Derived.ProofKit
import Derived.Test.YthippdmfeeopkabBun3
import Derived.OpenShut
import Derived.ShutString
import Derived.ChangeOld
/- Layer 15: the page's examples. -/
namespace PO
theorem fidx_one (p : Pos) : fidx [p] p.ser = some 0 := fidx_some (by simp) (fun j hj => by omega) (NM.seqB_iff.2 rfl)
theorem find_one (p : Pos) : findP [p] p.ser = p := by unfold findP; rw [fidx_one]; rfl
theorem others_one (p : Pos) : others [p] p.ser = [] := by
  have h : NM.seqB p.ser p.ser = true := NM.seqB_iff.2 rfl
  simp [others, h]
theorem puts_one {p q : Pos} (h : q.ser = p.ser) : putsL [p] q = if q.lo = 0 ∧ q.sh = 0 then [] else [q] := by
  unfold putsL
  rw [h, others_one]
  rfl
theorem check_one {p : Pos} (h : lotsB p.lo p.sh = true) : checkE [p] = 0 := by
  refine check_ok (by simp) fun j hj => ?_
  have : j = 0 := by simpa using hj
  subst this
  unfold eAt
  rw [if_neg (by omega)]
  show (if lotsB p.lo p.sh = true then (0 : Int) else 18) = 0
  rw [if_pos h]
abbrev fS : EM.Ser := ⟨⟨#[111, 105, 108]⟩, 1, 20, 0⟩
abbrev p02 : Pos := ⟨fS, 0, 2⟩
theorem c02 : checkE [p02] = 0 := check_one (by decide)
theorem f02 : findP [p02] fS = p02 := find_one p02
theorem c30 : checkE [⟨fS, 3, 0⟩] = 0 := check_one (by decide)
theorem f30 : findP [⟨fS, 3, 0⟩] fS = ⟨fS, 3, 0⟩ := find_one ⟨fS, 3, 0⟩
theorem ap1 : applyE [p02] 1 fS 5 0 = 0 ∧ applyL [p02] 1 fS 5 0 = [⟨fS, 3, 0⟩] := by
  have hn : newP [p02] 1 fS 5 0 = ⟨fS, 3, 0⟩ := by unfold newP; rw [f02]; rfl
  have hp : putsL [p02] ⟨fS, 3, 0⟩ = [⟨fS, 3, 0⟩] := by rw [puts_one (p := p02) (q := ⟨fS, 3, 0⟩) rfl, if_neg (by decide)]
  have e : applyE [p02] 1 fS 5 0 = 0 := by
    unfold applyE
    rw [hn, hp, f02, c02, if_neg (by decide), if_neg (by decide), if_neg (by decide), if_neg (by simp)]
  exact ⟨e, by unfold applyL; rw [if_pos e, hn, hp]⟩
theorem ap2 : applyE [p02] 3 fS 5 1 = 0 ∧ applyL [p02] 3 fS 5 1 = [⟨fS, 4, 1⟩] := by
  have hn : newP [p02] 3 fS 5 1 = ⟨fS, 4, 1⟩ := by unfold newP; rw [f02]; rfl
  have hp : putsL [p02] ⟨fS, 4, 1⟩ = [⟨fS, 4, 1⟩] := by rw [puts_one (p := p02) (q := ⟨fS, 4, 1⟩) rfl, if_neg (by decide)]
  have e : applyE [p02] 3 fS 5 1 = 0 := by
    unfold applyE
    rw [hn, hp, f02, c02, if_neg (by decide), if_neg (by decide), if_neg (by decide), if_neg (by simp)]
  exact ⟨e, by unfold applyL; rw [if_pos e, hn, hp]⟩
theorem ap3 : applyE [p02] 3 fS 5 3 = 30 := by
  unfold applyE
  rw [f02, c02, if_neg (by decide), if_neg (by decide), if_pos (by decide)]
  decide
theorem ap4 : applyE [p02] 2 fS 2 0 = 0 ∧ applyL [p02] 2 fS 2 0 = [] := by
  have hn : newP [p02] 2 fS 2 0 = ⟨fS, 0, 0⟩ := by unfold newP; rw [f02]; rfl
  have hp : putsL [p02] ⟨fS, 0, 0⟩ = [] := by rw [puts_one (p := p02) (q := ⟨fS, 0, 0⟩) rfl, if_pos (by decide)]
  have e : applyE [p02] 2 fS 2 0 = 0 := by
    unfold applyE
    rw [hn, hp, f02, c02, if_neg (by decide), if_neg (by decide), if_neg (by decide), if_neg (by simp)]
  exact ⟨e, by unfold applyL; rw [if_pos e, hn, hp]⟩
theorem mv1 : mvE [⟨fS, 3, 0⟩] [p02] 2 fS 2 0 = 0 ∧ mvA [⟨fS, 3, 0⟩] [p02] 2 fS 2 0 = [⟨fS, 1, 0⟩] ∧ mvB [⟨fS, 3, 0⟩] [p02] 2 fS 2 0 = [] := by
  have h0 : mv0E [⟨fS, 3, 0⟩] [p02] 2 2 0 = 0 := by
    unfold mv0E
    rw [c30, c02, if_neg (by decide), if_neg (by decide), if_neg (by decide), if_neg (by decide)]
  have h1 : gvE [⟨fS, 3, 0⟩] fS 2 0 = 0 := by unfold gvE; rw [f30, if_neg (by decide)]
  have h2 : gvL [⟨fS, 3, 0⟩] fS 2 0 = [⟨fS, 1, 0⟩] := by
    have hn : lessP [⟨fS, 3, 0⟩] fS 2 0 = ⟨fS, 1, 0⟩ := by unfold lessP; rw [f30]; rfl
    unfold gvL
    rw [if_pos h1, hn, puts_one (p := ⟨fS, 3, 0⟩) (q := ⟨fS, 1, 0⟩) rfl, if_neg (by decide)]
  have h3 : r1E [p02] 2 fS 2 = 0 := by unfold r1E; rw [if_neg (by decide)]; exact ap4.1
  have h4 : r1L [p02] 2 fS 2 = [] := by unfold r1L; rw [if_neg (by decide)]; exact ap4.2
  have h5 : rcE [p02] 2 fS 2 0 = 0 := by unfold rcE; rw [h3, h4, if_neg (by decide)]; rfl
  have h6 : rcL [p02] 2 fS 2 0 = [] := by unfold rcL; rw [if_pos h5, h4]; rfl
  have e : mvE [⟨fS, 3, 0⟩] [p02] 2 fS 2 0 = 0 := by unfold mvE; rw [h0, h1, h5]; rfl
  exact ⟨e, by unfold mvA; rw [if_pos e]; exact h2, by unfold mvB; rw [if_pos e]; exact h6⟩
theorem nt1 : netL [⟨fS, 4, 1⟩] = [⟨fS, 3, 0⟩] := by rfl
end PO
namespace Go.Proofs.Ythippdmfeeopkab
open Go.RowKit Go.Recs Go.Maps
set_option linter.unusedVariables false
set_option linter.unusedSimpArgs false
theorem lit_pos (W : World) (x : PO.Pos) (hq : posQ x) : Poss (W.alloc (.cells (posC x) 38)) (some ⟨W.heap.size, 0, none⟩) [x] := by
  refine ⟨?_, by intro a ha; rw [List.mem_singleton.1 ha]; exact hq⟩
  obtain ⟨A', cap, e, hr, _⟩ := OwnR.recs (OwnR.lit W W.heap.size 38 6 [posV x] (by simp [posV]) (Nat.le_refl _) (by simp [maxLen]))
  injection e with e1
  subst e1
  exact hr
theorem fS_q : serQ PO.fS := ⟨by decide, ⟨by decide, by decide⟩, ⟨by decide, by decide⟩, ⟨by decide, by decide⟩⟩
theorem pq_small {a b : Int} (h : (0 ≤ a ∧ a ≤ 1000) ∧ 0 ≤ b ∧ b ≤ 1000) : posQ ⟨PO.fS, a, b⟩ := ⟨fS_q, ⟨by show _ ≤ a; omega, by show a ≤ _; omega⟩, ⟨by show _ ≤ b; omega, by show b ≤ _; omega⟩⟩
theorem results_ser15 {fn : Func} {p : Tmp} (h : fn.results = #[.cell p 31]) (tmps : Array Value) (w : World) (g : Nat) (x : EM.Ser)
    (hp : tmps.getD p undef = .pointer (some ⟨g, 0, none⟩)) (hb : SBox w g x) : (results fn tmps).run Try.prog w = .ok (serA x) w := by
  have hu : Try.prog.underlying 31 = some (.struct (Try.prog.fieldsOf 31)) := by kernel_rfl
  have hz : (Try.prog.info? 31).map (·.size) = some 4 := by kernel_rfl
  rw [results_cell1 h, hp]
  simp only [asAddr, Sem.run_pure, Result.andThen_ok]
  rw [run_loadVar_row w g 31 31 _ (0, 0) _ hb hu rfl hz]
set_option maxHeartbeats 1000000 in
theorem f15_any (w : World) : Calls Try.prog 18 #[] w fun e w' => e = .returned (serA PO.fS) ∧ Below w.heap.size w w' := by
  have HB0 := Lib.hid (fun (c : Array Value) => below_al (Below.refl w.heap.size w) (.cells c 31))
  go_enter Try.func18, Try.ntmps18
  go_wp2_with fail
  (try simp only [Exit.inBlock, Exit.then])
  exact bodyPost_ret (results_ser15 (x := PO.fS) rfl _ _ _ rfl (SBox.new w PO.fS)) rfl ⟨rfl, HB0.out _⟩
end Go.Proofs.Ythippdmfeeopkab

/- Layer 15: the page's examples, walked. -/
namespace Go.Proofs.Ythippdmfeeopkab
open Go.RowKit Go.Recs Go.Maps
set_option linter.unusedVariables false
set_option linter.unusedSimpArgs false
abbrev posLit (a b : Int) : Array Value := #[.string ⟨#[111, 105, 108]⟩, .int .i64 1, .int .i64 20, .int .i64 0, .int .i64 a, .int .i64 b]
abbrev legLit (q : Int) : Array Value := #[.string ⟨#[]⟩, .string ⟨#[]⟩, .string ⟨#[111, 105, 108]⟩, .int .i64 1, .int .i64 20, .int .i64 0, .int .i64 q, .int .i64 0, .int .i64 0]
set_option maxHeartbeats 8000000 in
set_option maxRecDepth 100000 in
theorem goes15_any (w : World) : Calls Try.prog 6 #[] w fun e w' => e = .returned (.bool true) ∧ Below w.heap.size w w' := by
  have CF := Lib.hid (fun ww => f15_any ww)
  have HQ : Hid (legQ (sleg PO.fS 5)) := Lib.hid (sleg_q fS_q (by omega) (by omega))
  have A1 := Lib.hid (fun A c ww h => papply_any A [PO.p02] 1 c rfl 1 (sleg PO.fS 5) HQ.out 0 ww h)
  have A2 := Lib.hid (fun A c ww h => papply_any A [PO.p02] 1 c rfl 3 (sleg PO.fS 5) HQ.out 1 ww h)
  have A3 := Lib.hid (fun A c ww h => papply_any A [PO.p02] 1 c rfl 3 (sleg PO.fS 5) HQ.out 3 ww h)
  have AM := Lib.hid (fun A c B d ww h1 h2 => pmove_any A B [⟨PO.fS, 3, 0⟩] [PO.p02] 1 c 1 d rfl rfl 2 PO.fS fS_q 2 0 ww h1 h2)
  have AN := Lib.hid (fun A c ww h => pnetted_any A [⟨PO.fS, 4, 1⟩] 1 c rfl (by simp) ww h)
  rw [PO.ap1.1, PO.ap1.2] at A1
  rw [PO.ap2.1, PO.ap2.2] at A2
  rw [PO.ap3] at A3
  rw [PO.mv1.1, PO.mv1.2.1, PO.mv1.2.2] at AM
  rw [PO.nt1] at AN
  go_enter Try.func6, Try.ntmps6
  go_wp2_with fail
  refine (CF.out _).mono ?_
  rintro e w1 ⟨rfl, b1⟩
  have HB1 := Lib.hid (below_al b1 (.cells (posLit 0 2) 38))
  have HP1 : Hid (Poss (w1.alloc (.cells (posLit 0 2) 38)) (some ⟨w1.heap.size, 0, none⟩) [PO.p02]) := Lib.hid (lit_pos w1 PO.p02 (pq_small (by omega)))
  clear b1
  go_wp2_with fail
  generalize w1.alloc (.cells (posLit 0 2) 38) = w2 at *
  generalize w1.heap.size = g1 at *
  refine (CF.out _).mono ?_
  rintro e w3 ⟨rfl, b3⟩
  have HB3 := Lib.hid (HB1.out.trans (b3.mono HB1.out.size))
  have HP3 := Lib.hid ((HP1.out.below b3).below (below_al (Below.refl w3.heap.size w3) (.cells (legLit 5) 33)))
  have HL3 := Lib.hid (CB.new w3 33 (legLit 5))
  have HB4 := Lib.hid (below_al HB3.out (.cells (legLit 5) 33))
  clear b3 HB1 HP1 HB3
  go_wp2_with fail
  generalize w3.alloc (.cells (legLit 5) 33) = w4 at *
  generalize w3.heap.size = g2 at *
  refine (A1.out _ _ _ HP3.out).mono ?_
  rintro e w5 ⟨v5, rfl, o5, b5⟩
  obtain ⟨B5, c5, rfl, hR5, hc5⟩ := o5.recs
  have HO5 : Hid (Poss w5 B5 [⟨PO.fS, 3, 0⟩]) := Lib.hid ⟨hR5, by intro a ha; rw [List.mem_singleton.1 ha]; exact pq_small (by omega)⟩
  have HB5 := Lib.hid (HB4.out.trans (b5.mono HB4.out.size))
  have HP5 := Lib.hid (HP3.out.below b5)
  have HL5 := Lib.hid (HL3.out.below b5 HL3.out.lt)
  rw [show ([⟨PO.fS, 3, 0⟩] : List PO.Pos).map posV = [posV ⟨PO.fS, 3, 0⟩] from rfl, List.length_singleton]
  clear o5 b5 hR5 hc5 HB4 HP3 HL3 A1
  have y0 : w5.cell? ⟨g2, 0, none⟩ = some (.string ⟨#[]⟩) := HL5.out.cell 0
  have y1 : w5.cell? ⟨g2, 1, none⟩ = some (.string ⟨#[]⟩) := HL5.out.cell 1
  have y2 : w5.cell? ⟨g2, 2, none⟩ = some (.string ⟨#[111, 105, 108]⟩) := HL5.out.cell 2
  have y3 : w5.cell? ⟨g2, 3, none⟩ = some (.int .i64 1) := HL5.out.cell 3
  have y4 : w5.cell? ⟨g2, 4, none⟩ = some (.int .i64 20) := HL5.out.cell 4
  have y5 : w5.cell? ⟨g2, 5, none⟩ = some (.int .i64 0) := HL5.out.cell 5
  have y6 : w5.cell? ⟨g2, 6, none⟩ = some (.int .i64 5) := HL5.out.cell 6
  have y7 : w5.cell? ⟨g2, 7, none⟩ = some (.int .i64 0) := HL5.out.cell 7
  have y8 : w5.cell? ⟨g2, 8, none⟩ = some (.int .i64 0) := HL5.out.cell 8
  have yl := HL5.out.lt
  go_wp2_with fail
  refine (A2.out _ _ _ HP5.out).mono ?_
  clear y0 y1 y2 y3 y4 y5 y6 y7 y8 yl
  rintro e w6 ⟨v6, rfl, o6, b6⟩
  obtain ⟨B6, c6, rfl, hR6, hc6⟩ := o6.recs
  have HO6 : Hid (Poss w6 B6 [⟨PO.fS, 4, 1⟩]) := Lib.hid ⟨hR6, by intro a ha; rw [List.mem_singleton.1 ha]; exact pq_small (by omega)⟩
  have HB6 := Lib.hid (HB5.out.trans (b6.mono HB5.out.size))
  have HP6 := Lib.hid (HP5.out.below b6); have HQ6 := Lib.hid (HO5.out.below b6)
  have HL6 := Lib.hid (HL5.out.below b6 HL5.out.lt)
  rw [show ([⟨PO.fS, 4, 1⟩] : List PO.Pos).map posV = [posV ⟨PO.fS, 4, 1⟩] from rfl, List.length_singleton]
  clear o6 b6 hR6 hc6 HB5 HP5 HL5 HO5 A2
  have y0 : w6.cell? ⟨g2, 0, none⟩ = some (.string ⟨#[]⟩) := HL6.out.cell 0
  have y1 : w6.cell? ⟨g2, 1, none⟩ = some (.string ⟨#[]⟩) := HL6.out.cell 1
  have y2 : w6.cell? ⟨g2, 2, none⟩ = some (.string ⟨#[111, 105, 108]⟩) := HL6.out.cell 2
  have y3 : w6.cell? ⟨g2, 3, none⟩ = some (.int .i64 1) := HL6.out.cell 3
  have y4 : w6.cell? ⟨g2, 4, none⟩ = some (.int .i64 20) := HL6.out.cell 4
  have y5 : w6.cell? ⟨g2, 5, none⟩ = some (.int .i64 0) := HL6.out.cell 5
  have y6 : w6.cell? ⟨g2, 6, none⟩ = some (.int .i64 5) := HL6.out.cell 6
  have y7 : w6.cell? ⟨g2, 7, none⟩ = some (.int .i64 0) := HL6.out.cell 7
  have y8 : w6.cell? ⟨g2, 8, none⟩ = some (.int .i64 0) := HL6.out.cell 8
  have yl := HL6.out.lt
  go_wp2_with fail
  refine (A3.out _ _ _ HP6.out).mono ?_
  clear y0 y1 y2 y3 y4 y5 y6 y7 y8 yl
  rintro e w7 ⟨v7, rfl, o7, b7⟩
  have HB7 := Lib.hid (HB6.out.trans (b7.mono HB6.out.size))
  have HP7 := Lib.hid (HP6.out.below b7); have HQ7 := Lib.hid (HQ6.out.below b7); have HO7 := Lib.hid (HO6.out.below b7)
  clear o7 b7 HB6 HP6 HQ6 HL6 HO6 A3
  go_wp2_with fail
  refine (CF.out _).mono ?_
  rintro e w8 ⟨rfl, b8⟩
  have HB8 := Lib.hid (HB7.out.trans (b8.mono HB7.out.size))
  have HP8 := Lib.hid (HP7.out.below b8); have HQ8 := Lib.hid (HQ7.out.below b8); have HO8 := Lib.hid (HO7.out.below b8)
  clear b8 HB7 HP7 HQ7 HO7
  go_wp2_with fail
  refine (AM.out _ _ _ _ _ HQ8.out HP8.out).mono ?_
  rintro e w9 ⟨va, vb, rfl, oa, ob, b9⟩
  obtain ⟨Ba, ca, rfl, hRa, hca⟩ := oa.recs
  obtain ⟨Bb, cb, rfl, hRb, hcb⟩ := ob.recs
  have HA9 : Hid (Poss w9 Ba [⟨PO.fS, 1, 0⟩]) := Lib.hid ⟨hRa, by intro a ha; rw [List.mem_singleton.1 ha]; exact pq_small (by omega)⟩
  have HB9 := Lib.hid (HB8.out.trans (b9.mono HB8.out.size))
  have HQ9 := Lib.hid (HQ8.out.below b9); have HO9 := Lib.hid (HO8.out.below b9)
  rw [show ([⟨PO.fS, 1, 0⟩] : List PO.Pos).map posV = [posV ⟨PO.fS, 1, 0⟩] from rfl, List.length_singleton, show ([] : List PO.Pos).map posV = [] from rfl, List.length_nil]
  clear oa ob b9 hRa hRb hca hcb HB8 HP8 HQ8 HO8 AM
  go_wp2_with fail
  refine (CF.out _).mono ?_
  rintro e w10 ⟨rfl, b10⟩
  have HBx := Lib.hid (below_al (Below.refl w10.heap.size w10) (.cells (posLit 4 1) 38))
  have HB10 := Lib.hid (below_al (HB9.out.trans (b10.mono HB9.out.size)) (.cells (posLit 4 1) 38))
  have HQ10 := Lib.hid ((HQ9.out.below b10).below HBx.out); have HO10 := Lib.hid ((HO9.out.below b10).below HBx.out); have HA10 := Lib.hid ((HA9.out.below b10).below HBx.out)
  have HN10 : Hid (Poss (w10.alloc (.cells (posLit 4 1) 38)) (some ⟨w10.heap.size, 0, none⟩) [⟨PO.fS, 4, 1⟩]) := Lib.hid (lit_pos w10 ⟨PO.fS, 4, 1⟩ (pq_small (by omega)))
  clear b10 HBx HB9 HQ9 HO9 HA9 CF
  go_wp2_with fail
  generalize w10.alloc (.cells (posLit 4 1) 38) = w11 at *
  generalize w10.heap.size = g3 at *
  refine (AN.out _ _ _ HN10.out).mono ?_
  rintro e w12 ⟨vn, rfl, on, b12⟩
  obtain ⟨Bn, cn, rfl, hRn, hcn⟩ := on.recs
  have HN12 : Hid (Poss w12 Bn [⟨PO.fS, 3, 0⟩]) := Lib.hid ⟨hRn, by intro a ha; rw [List.mem_singleton.1 ha]; exact pq_small (by omega)⟩
  have HB12 := Lib.hid (HB10.out.trans (b12.mono HB10.out.size))
  have HQ12 := Lib.hid (HQ10.out.below b12); have HO12 := Lib.hid (HO10.out.below b12); have HA12 := Lib.hid (HA10.out.below b12)
  rw [show ([⟨PO.fS, 3, 0⟩] : List PO.Pos).map posV = [posV ⟨PO.fS, 3, 0⟩] from rfl, List.length_singleton]
  clear on b12 hRn hcn HB10 HQ10 HO10 HA10 HN10 AN
  obtain ⟨q1, q2, qx, rfl, hq1, QV, _, qa0, qa1, qa2, qa3, qa4, qa5⟩ := poss_get HQ12.out (k := 0) (by simp)
  obtain ⟨r1, r2, rx, rfl, hr1, RV, _, ra0, ra1, ra2, ra3, ra4, ra5⟩ := poss_get HO12.out (k := 0) (by simp)
  obtain ⟨s1, s2, sx, rfl, hs1, SV, _, sa0, sa1, sa2, sa3, sa4, sa5⟩ := poss_get HA12.out (k := 0) (by simp)
  obtain ⟨t1, t2, tx, rfl, ht1, TV, _, ta0, ta1, ta2, ta3, ta4, ta5⟩ := poss_get HN12.out (k := 0) (by simp)
  have q4 : w12.cell? ⟨q1, q2 + 4, none⟩ = some (.int .i64 3) := by have e := QV.out; rw [← e] at qa4; simpa [PO.pAt] using qa4
  have q5 : w12.cell? ⟨q1, q2 + 5, none⟩ = some (.int .i64 0) := by have e := QV.out; rw [← e] at qa5; simpa [PO.pAt] using qa5
  have r4 : w12.cell? ⟨r1, r2 + 4, none⟩ = some (.int .i64 4) := by have e := RV.out; rw [← e] at ra4; simpa [PO.pAt] using ra4
  have r5 : w12.cell? ⟨r1, r2 + 5, none⟩ = some (.int .i64 1) := by have e := RV.out; rw [← e] at ra5; simpa [PO.pAt] using ra5
  have s4 : w12.cell? ⟨s1, s2 + 4, none⟩ = some (.int .i64 1) := by have e := SV.out; rw [← e] at sa4; simpa [PO.pAt] using sa4
  have t4 : w12.cell? ⟨t1, t2 + 4, none⟩ = some (.int .i64 3) := by have e := TV.out; rw [← e] at ta4; simpa [PO.pAt] using ta4
  have t5 : w12.cell? ⟨t1, t2 + 5, none⟩ = some (.int .i64 0) := by have e := TV.out; rw [← e] at ta5; simpa [PO.pAt] using ta5
  clear qa0 qa1 qa2 qa3 qa4 qa5 ra0 ra1 ra2 ra3 ra4 ra5 sa0 sa1 sa2 sa3 sa4 sa5 ta0 ta1 ta2 ta3 ta4 ta5 QV RV SV TV
  go_wp2_with fail
  go_ret
  exact ⟨rfl, HB12.out⟩
end Go.Proofs.Ythippdmfeeopkab

/- Whatever positions and legs it is given, the law returns true: each series' Net behind a row of legs, in either order. -/
namespace Go.Proofs.Ythippdmfeeopkab.positionOrder
open Go.RowKit Go.Recs
set_option linter.unusedVariables false
abbrev okK (l la lb : List PO.Pos) (m : List PO.Dor) (k : Nat) : Prop :=
  (∀ s, PO.net (PO.findP la s) = PO.net (PO.findP l s) + PO.sumI s (m.take k)) ∧ (∀ s, PO.net (PO.findP lb s) = PO.net (PO.findP l s) + PO.sumI s (m.drop (m.length - k))) ∧
  (∀ p ∈ la, posQ p) ∧ (∀ p ∈ lb, posQ p) ∧ ((k = 0 ∧ la = l ∧ lb = l) ∨ (PO.checkE la = 0 ∧ PO.checkE lb = 0 ∧ PO.checkE l = 0)) ∧ (∀ j, j < k → -1048576 ≤ (PO.dAt m j).leg.qty ∧ (PO.dAt m j).leg.qty ≤ 1048576)
theorem okK_zero (l : List PO.Pos) (hq : ∀ p ∈ l, posQ p) (m : List PO.Dor) : okK l l l m 0 := by
  refine ⟨fun s => by simp [PO.sumI], fun s => by simp [PO.sumI], hq, hq, .inl ⟨rfl, rfl, rfl⟩, fun j h => by omega⟩
theorem okK_step {l la lb : List PO.Pos} {m : List PO.Dor} {k j : Nat} (h : okK l la lb m k) (hj : m.length = k + 1 + j) (hq1 : doQ (PO.dAt m k)) (hq2 : doQ (PO.dAt m j))
    (h1 : PO.applyE la 2 (PO.dAt m k).leg.ser (PO.dAt m k).leg.qty 0 = 0) (h2 : PO.applyE lb 2 (PO.dAt m j).leg.ser (PO.dAt m j).leg.qty 0 = 0) :
    okK l (PO.applyL la 2 (PO.dAt m k).leg.ser (PO.dAt m k).leg.qty 0) (PO.applyL lb 2 (PO.dAt m j).leg.ser (PO.dAt m j).leg.qty 0) m (k + 1) := by
  obtain ⟨a1, a2, a3, a4, a5, a6⟩ := h
  obtain ⟨b1, b2, b3, b4, b5⟩ := PO.apply_net h1
  obtain ⟨c1, c2, c3, c4, c5⟩ := PO.apply_net h2
  refine ⟨fun s => ?_, fun s => ?_, apply_posQ a3 hq1.1.2.2.1 _ _ _, apply_posQ a4 hq2.1.2.2.1 _ _ _, .inr ⟨b2, c2, ?_⟩, fun i hi => ?_⟩
  · rw [b1 s, a1 s, PO.sumI_take (by omega)]
    unfold PO.inc; omega
  · rw [c1 s, a2 s, show m.length - (k + 1) = j by omega, PO.sumI_drop (k := j) (by omega), show m.length - k = j + 1 by omega]
    unfold PO.inc; omega
  · rcases a5 with ⟨_, e, _⟩ | ⟨_, _, e⟩
    · rw [← e]; exact b3
    · exact e
  · rcases Nat.lt_or_ge i k with g | g
    · exact a6 i g
    · obtain rfl : i = k := by omega
      exact ⟨b4, b5⟩
abbrev endK (l la lb : List PO.Pos) (m : List PO.Dor) (s : EM.Ser) (X : Int) : Prop :=
  (-1048576 ≤ X ∧ X ≤ 1048576) ∧ IntKind.i64.wrap ((PO.findP l s).lo - (PO.findP l s).sh) = X ∧ IntKind.i64.wrap ((PO.findP la s).lo - (PO.findP la s).sh) = X + PO.sumI s m ∧ IntKind.i64.wrap ((PO.findP lb s).lo - (PO.findP lb s).sh) = X + PO.sumI s m ∧
  (∀ k, k ≤ m.length → -41943040 ≤ PO.sumI s (m.take k) ∧ PO.sumI s (m.take k) ≤ 41943040)
theorem wrap_small {x : Int} (h1 : -1048576 ≤ x) (h2 : x ≤ 1048576) : IntKind.i64.wrap x = x := by rw [IntKind.wrap_i64]; omega
theorem endK_of {l la lb : List PO.Pos} {m : List PO.Dor} (h : okK l la lb m m.length) (h0 : 0 < m.length) (h40 : ¬ 40 < m.length) (s : EM.Ser) : ∃ X, endK l la lb m s X := by
  obtain ⟨a1, a2, _, _, a5, a6⟩ := h
  have a5 : PO.checkE la = 0 ∧ PO.checkE lb = 0 ∧ PO.checkE l = 0 := by
    rcases a5 with ⟨e, _⟩ | e
    · omega
    · exact e
  have f1 := PO.find_lots (PO.check_good a5.1).2.2 s
  have f2 := PO.find_lots (PO.check_good a5.2.1).2.2 s
  have f3 := PO.find_lots (PO.check_good a5.2.2).2.2 s
  have b1 := a1 s
  have b2 := a2 s
  rw [List.take_length] at b1
  rw [Nat.sub_self, List.drop_zero] at b2
  unfold PO.net at b1 b2
  refine ⟨PO.net (PO.findP l s), ?_, ?_, ?_, ?_, fun k hk => ?_⟩
  · unfold PO.net; omega
  · rw [wrap_small (by omega) (by omega)]; rfl
  · rw [wrap_small (by omega) (by omega)]; unfold PO.net; omega
  · rw [wrap_small (by omega) (by omega)]; unfold PO.net; omega
  · have := PO.sumI_small s a6 k hk
    omega
theorem endK_check {l la lb : List PO.Pos} {m : List PO.Dor} (h : okK l la lb m m.length) : PO.checkE la = PO.checkE lb := by
  rcases h.2.2.2.2.1 with ⟨_, e1, e2⟩ | ⟨e1, e2, _⟩
  · rw [e1, e2]
  · rw [e1, e2]
end Go.Proofs.Ythippdmfeeopkab.positionOrder

/- The law of positions' order. -/
namespace Go.Proofs.Ythippdmfeeopkab.positionOrder
open Go.RowKit Go.Recs
set_option linter.unusedVariables false
set_option maxHeartbeats 16000000 in
set_option maxRecDepth 100000 in
theorem walk (A : Option Addr) (cap : Nat) (l : List PO.Pos) (A2 : Option Addr) (cap2 : Nat) (m : List PO.Dor) (w : World) (hI : Poss w A l ∧ l.length ≤ cap) (hJ : Dos w A2 m ∧ m.length ≤ cap2) :
    Calls Try.prog 3 #[.slice A l.length cap, .slice A2 m.length cap2] w fun e w' => e = .returned (.bool true) ∧ Below w.heap.size w w' := by
  have CG := Lib.hid (fun ww => goes15_any ww)
  have CA := Lib.hid (fun A l n c e (x : NM.Leg) hx ww h => papply_any A l n c e 2 x hx 0 ww h)
  have CF := Lib.hid (fun A l c s ww h => pfindl_any A l c s ww h)
  have CN := Lib.hid (fun x n hn ww => pnet_any x n hn ww)
  have CC := Lib.hid (fun A l n c e ww h => pcheck15_any A l n c e ww h)
  have HI := Lib.hid hI.1
  have HJ := Lib.hid hJ.1
  have HZ := Lib.hid (okK_zero l hI.1.2 m)
  have hlm : m.length ≤ 9223372036854775807 := hJ.1.len
  clear hI hJ
  by_cases h40 : 40 < m.length
  · go_enter Try.func3, Try.ntmps3
    go_wp2_with fail
    refine (CG.out _).mono ?_
    rintro e w1 ⟨rfl, b1⟩
    go_wp2_with fail
    go_ret
    exact ⟨rfl, b1⟩
  · go_enter Try.func3, Try.ntmps3
    go_wp2_with fail
    go_loopw [7, 5, 6, 8, 9, 10, 11] (fun i a b _ _ _ _ wr => ∃ (k : Nat) (la lb : List PO.Pos) (B1 B2 : Option Addr) (c1 c2 : Nat), k ≤ m.length ∧ i = .int .i64 (k : Int) ∧ a = .slice B1 la.length c1 ∧ b = .slice B2 lb.length c2 ∧ Hid (Poss wr B1 la) ∧ Hid (Poss wr B2 lb) ∧ Hid (okK l la lb m k) ∧ Hid (Below w.heap.size w wr)) (fun i _ _ _ _ _ _ _ => m.length - (intOf i).toNat)
    case atStart => exact ⟨0, l, l, A, A, cap, cap, by omega, rfl, rfl, rfl, HI, HI, HZ, Lib.hid (Below.refl _ _)⟩
    case round =>
      obtain ⟨k, la, lb, B1, B2, c1, c2, hk, rfl, rfl, rfl, HPA, HPB, HK, HB⟩ := hrel
      have hla : la.length ≤ 9223372036854775807 := HPA.out.len
      have hlb : lb.length ≤ 9223372036854775807 := HPB.out.len
      by_cases hlt : k < m.length
      · obtain ⟨j, hj⟩ : ∃ j : Nat, m.length = k + 1 + j := ⟨m.length - (k + 1), by omega⟩
        have hj2 : (m.length : Int) - 1 - (k : Int) = (j : Int) := by omega
        have hjl : j < m.length := by omega
        have HJ3 := Lib.hid (HJ.out.below HB.out)
        obtain ⟨b, off, x, rfl, hb, HV, q, d0, d1, d2, d3, d4, d5, d6, d7, d8, d9⟩ := dos_get HJ3.out hlt
        have HST := Lib.hid (fun h1 h2 h3 h4 => @okK_step l la lb m k j HK.out hj h1 h2 h3 h4)
        rw [HV.out] at HST
        have C1 := Lib.hid (fun A n c e ww h => CA.out A la n c e x.leg q.1 ww h)
        have HQX := Lib.hid q
        have HQA := Lib.hid (apply_posQ HK.out.2.2.1 q.1.2.2.1 2 x.leg.qty 0)
        have HQB := Lib.hid (fun (y : PO.Dor) (qy : doQ y) => apply_posQ HK.out.2.2.2.1 qy.1.2.2.1 2 y.leg.qty 0)
        clear hj q HK
        go_wp2_with fail
        refine (C1.out _ _ _ rfl _ HPA.out).mono ?_
        rintro e w3 ⟨v3, rfl, o3, b3⟩
        obtain ⟨b', off', y, he, hb', HVy, qy, g0, g1, g2, g3, g4, g5, g6, g7, g8, g9⟩ := dos_get (HJ3.out.below b3) hjl
        cases he
        rw [HVy.out] at HST
        have C2 := Lib.hid (fun A n c e ww h => CA.out A lb n c e y.leg qy.1 ww h)
        have HQB2 := Lib.hid (HQB.out y qy)
        have HST2 := Lib.hid (HST.out HQX.out qy)
        generalize PO.applyE la 2 x.leg.ser x.leg.qty 0 = E1 at *
        generalize PO.applyL la 2 x.leg.ser x.leg.qty 0 = la' at *
        obtain ⟨B3, c3, rfl, hR3, hc3⟩ := o3.recs
        have HPA3 : Hid (Poss w3 B3 la') := Lib.hid ⟨hR3, HQA.out⟩
        have HPB3 := Lib.hid (HPB.out.below b3)
        have HB3 := Lib.hid (HB.out.trans (b3.mono HB.out.size))
        rw [List.length_map]
        clear o3 b3 hR3 hc3 HST HQB HQX qy HPA HPB HJ3 HVy HV C1 hb hb' d0 d1 d2 d3 d4 d5 d6 d7 d8 d9 HB
        go_wp2_with fail
        refine (C2.out _ _ _ rfl _ HPB3.out).mono ?_
        rintro e w4 ⟨v4, rfl, o4, b4⟩
        generalize PO.applyE lb 2 y.leg.ser y.leg.qty 0 = E2 at *
        generalize PO.applyL lb 2 y.leg.ser y.leg.qty 0 = lb' at *
        obtain ⟨B4, c4, rfl, hR4, hc4⟩ := o4.recs
        have HPB4 : Hid (Poss w4 B4 lb') := Lib.hid ⟨hR4, HQB2.out⟩
        have HPA4 := Lib.hid (HPA3.out.below b4)
        have HB4 := Lib.hid (HB3.out.trans (b4.mono HB3.out.size))
        rw [List.length_map]
        clear o4 b4 hR4 hc4 HPA3 HPB3 HB3 HQA HQB2 C2 g0 g1 g2 g3 g4 g5 g6 g7 g8 g9
        by_cases z1 : E1 = 0
        · by_cases z2 : E2 = 0
          · have HK4 := Lib.hid (HST2.out z1 z2)
            subst z1
            subst z2
            clear HST2 hj2 hjl
            go_wp2_with fail
            go_roundw
            case rel => exact ⟨k + 1, la', lb', B3, B4, c3, c4, by omega, by go_num, rfl, rfl, HPA4, HPB4, HK4, HB4⟩
            case measure => simp [intOf]; omega
          · subst z1
            clear HST2 hj2 hjl
            go_wp2_with fail
            refine (CG.out _).mono ?_
            rintro e w5 ⟨rfl, b5⟩
            have HB5 := Lib.hid (HB4.out.trans (b5.mono HB4.out.size))
            go_wp2_with fail
            go_ret
            exact ⟨rfl, HB5.out⟩
        · clear HST2 hj2 hjl
          go_wp2_with fail
          refine (CG.out _).mono ?_
          rintro e w5 ⟨rfl, b5⟩
          have HB5 := Lib.hid (HB4.out.trans (b5.mono HB4.out.size))
          go_wp2_with fail
          go_ret
          exact ⟨rfl, HB5.out⟩
      · obtain rfl : k = m.length := by omega
        have HE := Lib.hid (fun h0 s => endK_of HK.out h0 h40 s)
        have HEC := Lib.hid (endK_check HK.out)
        have HI5 := Lib.hid (HI.out.below HB.out)
        have HJ5 := Lib.hid (HJ.out.below HB.out)
        clear HK HZ HI HJ
        generalize wr = w5 at *
        go_wp2_with fail
        go_loopw [12, 13, 14, 15] (fun i _ _ _ wq => ∃ k : Nat, k ≤ m.length ∧ i = .int .i64 (k : Int) ∧ Hid (Below w5.heap.size w5 wq)) (fun i _ _ _ _ => m.length - (intOf i).toNat)
        case atStart => exact ⟨0, by omega, rfl, Lib.hid (Below.refl _ _)⟩
        case round =>
          obtain ⟨k, hk, rfl, HBq⟩ := hrel
          by_cases hlt : k < m.length
          · obtain ⟨b, off, x, rfl, hb, HV, q, d0, d1, d2, d3, d4, d5, d6, d7, d8, d9⟩ := dos_get (HJ5.out.below HBq.out) hlt
            obtain ⟨X, hX, e0, e1, e2, e3⟩ := HE.out (by omega) x.leg.ser
            have CF0 := Lib.hid (fun ww h => CF.out A l cap x.leg.ser ww h)
            have CF1 := Lib.hid (fun ww h => CF.out B1 la c1 x.leg.ser ww h)
            have CF2 := Lib.hid (fun ww h => CF.out B2 lb c2 x.leg.ser ww h)
            have CN0 := Lib.hid (fun ww => CN.out _ _ e0 ww)
            have CN1 := Lib.hid (fun ww => CN.out _ _ e1 ww)
            have CN2 := Lib.hid (fun ww => CN.out _ _ e2 ww)
            have HS3 := Lib.hid e3
            generalize x.leg.ser = s at *
            have HB6 : Hid (Below w5.heap.size w5 (wr.alloc (.cells (serC s) 31))) := Lib.hid (HBq.out.alloc HBq.out.size _)
            have HG6 := Lib.hid (CB.new wr 31 (serC s))
            have hg6 : w5.heap.size ≤ wr.heap.size := HBq.out.size
            clear e0 e1 e2 e3 q
            go_wp2_with fail
            generalize wr.alloc (.cells (serC s) 31) = w6 at *
            generalize wr.heap.size = g at *
            refine (CF0.out _ (HI5.out.below HB6.out)).mono ?_
            rintro e w7 ⟨rfl, b7⟩
            have HB7 := Lib.hid (HB6.out.trans (b7.mono HB6.out.size))
            have HG7 := Lib.hid (HG6.out.below b7 HG6.out.lt)
            clear b7
            go_wp2_with fail
            refine (CN0.out _).mono ?_
            rintro e w8 ⟨rfl, b8⟩
            have HB8 := Lib.hid (HB7.out.trans (b8.mono HB7.out.size))
            have HG8 := Lib.hid (HG7.out.below b8 HG7.out.lt)
            clear b8 HB7 HG7 HB6 HG6 CF0 CN0 d0 d1 d2 d3 d4 d5 d6 d7 d8 d9
            go_wp2_with fail
            generalize hw8 : w8.heap.size = sz8 at *
            go_loopw [14, 15] (fun nn i wr => ∃ (j : Nat) (y : Int), j ≤ m.length ∧ i = .int .i64 (j : Int) ∧ nn = .int .i64 y ∧ (-42991616 ≤ y ∧ y ≤ 42991616) ∧ Hid (y = X + PO.sumI s (m.take j)) ∧ Hid (Below w8.heap.size w8 wr)) (fun _ i _ => m.length - (intOf i).toNat)
            case atStart => exact ⟨0, X, by omega, rfl, rfl, by omega, Lib.hid (by simp [PO.sumI]), Lib.hid (Below.refl _ _)⟩
            case round =>
              obtain ⟨j, y, hj, rfl, rfl, hy, HY, HN⟩ := hrel
              have HB9 := Lib.hid (HB8.out.trans (HN.out.mono HB8.out.size))
              have HG9 := Lib.hid (HG8.out.below HN.out HG8.out.lt)
              by_cases hjl : j < m.length
              · obtain ⟨b', off', z, he, hb', HV', qz, g0, g1, g2, g3, g4, g5, g6, g7, g8, g9⟩ := dos_get (HJ5.out.below HB9.out) hjl
                cases he
                have s0 : wr.cell? ⟨g, 0, none⟩ = some (.string s.prod) := HG9.out.cell 0
                have s1 : wr.cell? ⟨g, 1, none⟩ = some (.int .i64 s.kind) := HG9.out.cell 1
                have s2 : wr.cell? ⟨g, 2, none⟩ = some (.int .i64 s.expiry) := HG9.out.cell 2
                have s3 : wr.cell? ⟨g, 3, none⟩ = some (.int .i64 s.strike) := HG9.out.cell 3
                have E1 : ∀ ww, (Op.equalIn 10000 31 (.agg #[.string z.leg.ser.prod, .int .i64 z.leg.ser.kind, .int .i64 z.leg.ser.expiry, .int .i64 z.leg.ser.strike]) (.agg #[.string s.prod, .int .i64 s.kind, .int .i64 s.expiry, .int .i64 s.strike])).run Try.prog ww = .ok (NM.seqB z.leg.ser s) ww := fun ww => ser_in z.leg.ser s ww
                have E2 := ser_guard
                have HT := PO.sumI_take hjl s
                rw [HV'.out] at HT
                have hb1 := HS3.out (j + 1) (by omega)
                clear g0 g1 g7 g8 g9 qz HV'
                cases hq : NM.seqB z.leg.ser s
                · rw [hq] at E1
                  have HY2 : Hid (y = X + PO.sumI s (m.take (j + 1))) := Lib.hid (by rw [HT]; unfold PO.inc; rw [hq]; simp; exact HY.out)
                  clear HT hb1 hq
                  go_wp2_with fail
                  go_quiet (fail)
                  go_wp2_with fail
                  go_roundw
                  case rel => exact ⟨j + 1, y, by omega, by go_num, rfl, hy, HY2, Lib.hid (by first | exact below_drewN HN.out _ | exact HN.out.drew | exact HN.out)⟩
                  case measure => simp [intOf]; omega
                · rw [hq] at E1
                  have HY2 : Hid (y + z.leg.qty = X + PO.sumI s (m.take (j + 1))) := Lib.hid (by rw [HT]; unfold PO.inc; rw [hq]; have := HY.out; simp; omega)
                  have hyq : -42991616 ≤ y + z.leg.qty ∧ y + z.leg.qty ≤ 42991616 := by have := HY2.out; omega
                  clear HT hb1 hq
                  go_wp2_with fail
                  go_quiet (fail)
                  go_wp2_with fail
                  go_roundw
                  case rel => exact ⟨j + 1, y + z.leg.qty, by omega, by go_num, by go_num, hyq, HY2, Lib.hid (by first | exact below_drewN HN.out _ | exact HN.out.drew | exact HN.out)⟩
                  case measure => simp [intOf]; omega
              · obtain rfl : j = m.length := by omega
                have hyX : y = X + PO.sumI s m := by have := HY.out; rwa [List.take_length] at this
                rw [← hyX] at CN1 CN2
                have HPA8 : Hid (Poss wr B1 la) := Lib.hid (HPA.out.below HB9.out)
                have HPB8 : Hid (Poss wr B2 lb) := Lib.hid (HPB.out.below HB9.out)
                clear HY HB8 HG8 hyX HS3
                generalize wr = w9 at *
                have s0 : w9.cell? ⟨g, 0, none⟩ = some (.string s.prod) := HG9.out.cell 0
                have s1 : w9.cell? ⟨g, 1, none⟩ = some (.int .i64 s.kind) := HG9.out.cell 1
                have s2 : w9.cell? ⟨g, 2, none⟩ = some (.int .i64 s.expiry) := HG9.out.cell 2
                have s3 : w9.cell? ⟨g, 3, none⟩ = some (.int .i64 s.strike) := HG9.out.cell 3
                go_wp2_with fail
                refine (CF1.out _ HPA8.out).mono ?_
                rintro e w10 ⟨rfl, b10⟩
                have HB10 := Lib.hid (HB9.out.trans (b10.mono HB9.out.size))
                have HG10 := Lib.hid (HG9.out.below b10 HG9.out.lt)
                have HPB10 := Lib.hid (HPB8.out.below b10)
                clear b10 HB9 HG9 HPA8 HPB8 s0 s1 s2 s3
                go_wp2_with fail
                refine (CN1.out _).mono ?_
                rintro e w11 ⟨rfl, b11⟩
                have HB11 := Lib.hid (HB10.out.trans (b11.mono HB10.out.size))
                have HG11 := Lib.hid (HG10.out.below b11 HG10.out.lt)
                have HPB11 := Lib.hid (HPB10.out.below b11)
                have s0 : w11.cell? ⟨g, 0, none⟩ = some (.string s.prod) := HG11.out.cell 0
                have s1 : w11.cell? ⟨g, 1, none⟩ = some (.int .i64 s.kind) := HG11.out.cell 1
                have s2 : w11.cell? ⟨g, 2, none⟩ = some (.int .i64 s.expiry) := HG11.out.cell 2
                have s3 : w11.cell? ⟨g, 3, none⟩ = some (.int .i64 s.strike) := HG11.out.cell 3
                clear b11 HB10 HG10 HPB10
                go_wp2_with fail
                refine (CF2.out _ HPB11.out).mono ?_
                rintro e w12 ⟨rfl, b12⟩
                have HB12 := Lib.hid (HB11.out.trans (b12.mono HB11.out.size))
                clear b12 HB11 HG11 HPB11 s0 s1 s2 s3
                go_wp2_with fail
                refine (CN2.out _).mono ?_
                rintro e w13 ⟨rfl, b13⟩
                have HB13 := Lib.hid (HB12.out.trans (b13.mono HB12.out.size))
                clear b13 HB12
                go_wp2_with fail
                go_roundw
                case rel => exact ⟨k + 1, by omega, by go_num, HB13⟩
                case measure => simp [intOf]; omega
          · obtain rfl : k = m.length := by omega
            have HPA5 := Lib.hid (HPA.out.below HBq.out)
            have HPB5 := Lib.hid (HPB.out.below HBq.out)
            have CCA := Lib.hid (fun ww h => CC.out B1 la la.length c1 rfl ww h)
            have CCB := Lib.hid (fun ww h => CC.out B2 lb lb.length c2 rfl ww h)
            rw [HEC.out] at CCA
            have HB6 := Lib.hid (HB.out.trans (HBq.out.mono HB.out.size))
            generalize PO.checkE lb = ec at *
            clear HBq
            go_wp2_with fail
            refine (CCA.out _ HPA5.out).mono ?_
            rintro e w7 ⟨rfl, b7⟩
            have HB7 := Lib.hid (HB6.out.trans (b7.mono HB6.out.size))
            have HPB7 := Lib.hid (HPB5.out.below b7)
            clear b7
            go_wp2_with fail
            refine (CCB.out _ HPB7.out).mono ?_
            rintro e w8 ⟨rfl, b8⟩
            have HB8 := Lib.hid (HB7.out.trans (b8.mono HB7.out.size))
            clear b8
            go_wp2_with fail
            refine (CG.out _).mono ?_
            rintro e w9 ⟨rfl, b9⟩
            have HB9 := Lib.hid (HB8.out.trans (b9.mono HB8.out.size))
            go_wp2_with fail
            go_ret
            exact ⟨rfl, HB9.out⟩
end Go.Proofs.Ythippdmfeeopkab.positionOrder

/- What the reach says of a text that opens a record, over any program. -/
namespace Go.Recs
open Go.ChangeShapes Go.WideShapes Go.RowKit Go.Deep
set_option linter.unusedVariables false
theorem first_sized {H : Type} {enc : TypeId × Value → H} {P : Program} {W : World} {base : Nat} {spare : Nat → Bool} {held : Bool} {T : TypeId} {cs : Array Value} {d : DataW H} {p : List MemPlace} {fs : Array Field} {f : Field} {s : ByteArray}
    {ts : List TypeId} {ds : List (DataW H)} {j : Nat}
    (h : (DataW.weightsEach P ts ds).all (· ≤ reachBytes) = true) (ht : ts[j]? = some T) (hd : ds[j]? = some d)
    (hT : DataW.Trod enc P W base spare held T (.agg cs) d p) (hu : P.underlying T = some (.struct fs)) (hf : fs[0]? = some f) (ho : f.offset = 0) (hs : P.underlying f.type = some .string) (hc : P.cellsOf f.type = 1) (hcs : cs[0]? = some (.string s)) :
    s.size ≤ 140737488351232 := by
  obtain ⟨fuel, hx⟩ := hT
  obtain ⟨xs, n, _, hxd, _, hxl, hfl⟩ := DataW.trod_struct hu hx
  have h0 := hfl 0 f hf
  have hpos : 0 < xs.length := by
    rw [hxl]
    rcases Nat.eq_zero_or_pos fs.size with e | e
    · rw [Array.getElem?_eq_none (by omega)] at hf; cases hf
    · exact e
  rw [List.getElem?_eq_getElem hpos] at h0
  obtain ⟨t, ht0, hx0, _⟩ := DataW.trod_string hs h0
  rw [ho, hc, List.drop_zero] at ht0
  have ets : t = s := by
    have e1 : (Value.agg cs).cells.toList.take 1 = [Value.string t] := ht0
    have e2 : (Value.agg cs).cells.toList[0]? = some (Value.string s) := by simpa [Value.cells] using hcs
    cases hl : (Value.agg cs).cells.toList with
    | nil => rw [hl] at e2; cases e2
    | cons a r => rw [hl] at e1 e2; simp at e1 e2; rw [e1] at e2; injection e2
  subst ets
  injection hxd with hd1 _
  have hw : t.data.toList.length ∈ d.weights P T := by
    rw [hd1]
    simp only [DataW.weights, hu]
    have hm := DataW.weights_mem_each (P := P) (ts := fs.toList.map (·.type)) (ds := xs.map (·.1)) (j := 0) (t := f.type) (d := xs[0].1) (by rw [List.getElem?_map, Array.getElem?_toList, hf]; rfl) (by rw [List.getElem?_map, List.getElem?_eq_getElem hpos]; rfl) t.data.toList.length
    apply hm
    rw [hx0]
    simp [DataW.weights]
  have := List.all_eq_true.1 h _ (DataW.weights_mem_each ht hd _ hw)
  have e : t.data.toList.length = t.size := Array.length_toList
  rw [e] at this
  have hr : reachBytes = 140737488351232 := by decide
  rw [← hr]
  simpa using this
end Go.Recs

/- A law's arguments: products and series, by value and in slices. -/
namespace Go.Proofs.Ythippdmfeeopkab
open Go.ChangeShapes Go.WideShapes Go.ChangeAt Go.RowKit Go.Recs
set_option linter.unusedVariables false
set_option maxRecDepth 100000
theorem ser_leafs : leafs Try.prog 2 31 = some serL := by kernel_rfl
theorem open_serT {H : Type} {enc : TypeId × Value → H} {W : World} {base b0 : Nat} {spare : Nat → Bool} {held : Bool} {r : Reach} {v : Value} {d : DataW H} {p : List MemPlace}
    (hv : Value.okWide Try.prog W r b0 54 v) (h : DataW.Trod enc Try.prog W base spare held 54 v d p) :
    ∃ A cap, ∃ l : List EM.Ser, v = .slice A l.length cap ∧ (Sers W A l ∧ l.length ≤ cap) ∧ True := by
  obtain ⟨A, cap, rows, rfl, hR, hk, hc⟩ := open_recs (n := 2) (sz := 4) Try.underlying54 ser_leafs (by kernel_rfl) rfl (by omega) hv h
  obtain ⟨l, rfl, hq⟩ := typed (ls := serL) serV _ ser_row rows hk
  rw [List.length_map] at hc ⊢
  exact ⟨A, cap, l, rfl, ⟨⟨hR, hq⟩, hc⟩, trivial⟩
theorem open_serV {H : Type} {enc : TypeId × Value → H} {W : World} {base b0 : Nat} {spare : Nat → Bool} {held : Bool} {r : Reach} {v : Value} {d : DataW H} {p : List MemPlace}
    (hv : Value.okWide Try.prog W r b0 31 v) (h : DataW.Trod enc Try.prog W base spare held 31 v d p) :
    ∃ x : EM.Ser, v = .agg #[.string x.prod, .int .i64 x.kind, .int .i64 x.expiry, .int .i64 x.strike] ∧ serQ x := by
  obtain ⟨cs, rfl, hk⟩ := open_rec (n := 2) Try.underlying31 ser_leafs (by kernel_rfl) hv h
  obtain ⟨x, rfl, hq⟩ := ser_row cs hk
  exact ⟨x, rfl, hq⟩
theorem ser_sized {H : Type} {enc : TypeId × Value → H} {W : World} {base : Nat} {spare : Nat → Bool} {held : Bool} {x : EM.Ser} {d : DataW H} {p : List MemPlace} {ts : List TypeId} {ds : List (DataW H)} {j : Nat}
    (h : (DataW.weightsEach Try.prog ts ds).all (· ≤ reachBytes) = true) (ht : ts[j]? = some 31) (hd : ds[j]? = some d)
    (hT : DataW.Trod enc Try.prog W base spare held 31 (.agg #[.string x.prod, .int .i64 x.kind, .int .i64 x.expiry, .int .i64 x.strike]) d p) : x.prod.size ≤ 140737488351232 :=
  first_sized (cs := #[.string x.prod, .int .i64 x.kind, .int .i64 x.expiry, .int .i64 x.strike]) h ht hd hT Try.underlying31 rfl rfl Try.underlying9 (by kernel_rfl) rfl
end Go.Proofs.Ythippdmfeeopkab
