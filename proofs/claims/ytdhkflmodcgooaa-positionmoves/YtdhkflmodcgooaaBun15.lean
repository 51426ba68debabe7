/- Put together: PosV. -/
import Derived.Test.YtdhkflmodcgooaaBun14
/- Contracts of layer 15's reference: Move. -/
namespace PO
theorem less_len {l : List Pos} {s : EM.Ser} {lo sh : Int} (hc : checkE l = 0) (hls : lotsB lo sh = true) (hg : gvE l s lo sh = 0) : ¬ 128 < (putsL l (lessP l s lo sh)).length := by
  obtain ⟨h128, _, _⟩ := check_good hc
  have hl := lotsB_iff.1 hls
  have hgv : ¬ ((findP l s).lo < lo ∨ (findP l s).sh < sh) := fun h => by unfold gvE at hg; rw [if_pos h] at hg; cases hg
  rcases find_cases l s with ⟨h1, h2⟩ | ⟨h1, _⟩
  · have hlt : (others l s).length < l.length := by
      unfold others
      refine List.length_filter_lt_length_iff_exists.2 ⟨findP l s, h1, ?_⟩
      rw [h2, NM.seqB_iff.2 rfl]; simp
    have hle : (putsL l (lessP l s lo sh)).length ≤ (others l s).length + 1 := by
      unfold putsL
      have e : (lessP l s lo sh).ser = s := rfl
      rw [e]
      split
      · omega
      · rw [(ins_perm _ _).length_eq, List.length_cons]; exact Nat.le_refl _
    omega
  · rw [h1] at hgv
    simp only at hgv
    omega
theorem less_put {l : List Pos} {s : EM.Ser} {lo sh : Int} (hc : checkE l = 0) (hls : lotsB lo sh = true) (hg : gvE l s lo sh = 0) : putR l (lessP l s lo sh) = gvL l s lo sh := by
  obtain ⟨_, _, hgd⟩ := check_good hc
  have hl := lotsB_iff.1 hls
  have hf := find_lots hgd s
  rw [(put_ok (by show ¬ (1048576 < (findP l s).lo - lo ∨ 1048576 < (findP l s).sh - sh); omega) (less_len hc hls hg)).2]
  unfold gvL; rw [if_pos hg]
end PO
namespace Go.Proofs.Ytdhkflmodcgooaa
open Go.RowKit Go.Recs
set_option linter.unusedVariables false
set_option linter.unusedSimpArgs false
theorem less_q {l : List PO.Pos} (hq : ∀ p ∈ l, posQ p) {s : EM.Ser} (hs : serQ s) {lo sh : Int} (hc : PO.checkE l = 0) (hls : PO.lotsB lo sh = true) : ∀ p ∈ PO.gvL l s lo sh, posQ p := by
  intro p hp
  unfold PO.gvL at hp
  split at hp
  · obtain ⟨_, _, hgd⟩ := PO.check_good hc
    have hl := PO.lotsB_iff.1 hls
    have hf := PO.find_lots hgd s
    rcases PO.puts_mem hp with rfl | h
    · exact ⟨hs, ⟨by show _ ≤ (PO.findP l s).lo - lo; omega, by show (PO.findP l s).lo - lo ≤ _; omega⟩, ⟨by show _ ≤ (PO.findP l s).sh - sh; omega, by show (PO.findP l s).sh - sh ≤ _; omega⟩⟩
    · exact hq p h
  · simp at hp
theorem r1_q {l : List PO.Pos} (hq : ∀ p ∈ l, posQ p) {s : EM.Ser} (hs : serQ s) (kind q : Int) : ∀ p ∈ PO.r1L l kind s q, posQ p := by
  intro p hp
  unfold PO.r1L at hp
  split at hp
  · exact hq p hp
  · exact apply_posQ hq hs kind q 0 p hp
theorem rc_q {l : List PO.Pos} (hq : ∀ p ∈ l, posQ p) {s : EM.Ser} (hs : serQ s) (kind lo sh : Int) : ∀ p ∈ PO.rcL l kind s lo sh, posQ p := by
  intro p hp
  unfold PO.rcL at hp
  split at hp
  · exact r1_q (r1_q hq hs kind lo) hs kind (-sh) p hp
  · simp at hp
theorem mv0_parts {l m : List PO.Pos} {kind lo sh : Int} (h : PO.mv0E l m kind lo sh = 0) : PO.checkE l = 0 ∧ PO.checkE m = 0 ∧ (1 ≤ kind ∧ kind ≤ 3) ∧ PO.lotsB lo sh = true := by
  unfold PO.mv0E at h
  split at h
  · rename_i g; exact absurd h g
  rename_i g1
  split at h
  · rename_i g; exact absurd h g
  rename_i g2
  split at h
  · cases h
  rename_i g3
  split at h
  · cases h
  rename_i g4
  exact ⟨Classical.not_not.1 g1, Classical.not_not.1 g2, Classical.not_not.1 g3, Classical.not_not.1 g4⟩
theorem mvA_q {l m : List PO.Pos} (hq : ∀ p ∈ l, posQ p) {s : EM.Ser} (hs : serQ s) (kind lo sh : Int) : ∀ p ∈ PO.mvA l m kind s lo sh, posQ p := by
  intro p hp
  unfold PO.mvA at hp
  split at hp
  · rename_i h
    have h0 : PO.mv0E l m kind lo sh = 0 := by
      by_cases g : PO.mv0E l m kind lo sh = 0
      · exact g
      · unfold PO.mvE at h; rw [if_pos g] at h; exact absurd h g
    obtain ⟨c1, _, _, c4⟩ := mv0_parts h0
    exact less_q hq hs c1 c4 p hp
  · simp at hp
theorem mvB_q {l m : List PO.Pos} (hq : ∀ p ∈ m, posQ p) {s : EM.Ser} (hs : serQ s) (kind lo sh : Int) : ∀ p ∈ PO.mvB l m kind s lo sh, posQ p := by
  intro p hp
  unfold PO.mvB at hp
  split at hp
  · exact rc_q hq hs kind lo sh p hp
  · simp at hp
set_option maxHeartbeats 16000000 in
set_option maxRecDepth 100000 in
theorem rmove15_any (A B : Option Addr) (l m : List PO.Pos) (na ca nb cb : Nat) (hna : na = l.length) (hnb : nb = m.length) (kind : Int) (s : EM.Ser) (hs : serQ s) (lo sh : Int) (w : World) (hI : Poss w A l) (hJ : Poss w B m) :
    Calls Try.prog 32 #[.slice A na ca, .slice B nb cb, .int .i64 kind, serA s, .int .i64 lo, .int .i64 sh] w fun e w' =>
      ∃ A1 A2 k1 k2, e = .returned (.tuple #[.slice A1 (PO.mvA l m kind s lo sh).length k1, .slice A2 (PO.mvB l m kind s lo sh).length k2, .int .i64 (PO.mvE l m kind s lo sh)]) ∧ Poss w' A1 (PO.mvA l m kind s lo sh) ∧ Poss w' A2 (PO.mvB l m kind s lo sh) ∧ Below w.heap.size w w' := by
  subst hna hnb
  have hlenl := hI.len
  have hlenm := hJ.len
  have HB0 := Lib.hid (below_al (Below.refl w.heap.size w) (.cells #[.string s.prod, .int .i64 s.kind, .int .i64 s.expiry, .int .i64 s.strike] 44))
  have HX0 := Lib.hid (SBox.new w s)
  have HI0 := Lib.hid (hI.below HB0.out); have HJ0 := Lib.hid (hJ.below HB0.out)
  have C1 := Lib.hid (fun ww h => rcheck15_any A l l.length ca rfl ww h)
  have C2 := Lib.hid (fun ww h => rcheck15_any B m m.length cb rfl ww h)
  have C3 := Lib.hid (fun ww => rkind15_any kind ww)
  have CL := Lib.hid (fun n ww => rlots15_any n ww)
  have HQA := Lib.hid (mvA_q (m := m) hI.2 hs kind lo sh)
  have HQB := Lib.hid (mvB_q (l := l) hJ.2 hs kind lo sh)
  have HQL := Lib.hid hI.2
  have HQM := Lib.hid hJ.2
  have HSR := Lib.hid hs
  clear hI hJ hs
  have NO : Hid (∀ (ww : World) (z : Int), ∃ A1 A2 k1 k2, (Value.tuple #[.slice none 0 0, .slice none 0 0, .int .i64 z]) = .tuple #[.slice A1 ([] : List PO.Pos).length k1, .slice A2 ([] : List PO.Pos).length k2, .int .i64 z] ∧ Poss ww A1 [] ∧ Poss ww A2 []) := Lib.hid (fun ww z => ⟨none, none, 0, 0, rfl, TR.nil _ _, TR.nil _ _⟩)
  by_cases h1 : PO.checkE l = 0
  · by_cases h2 : PO.checkE m = 0
    · by_cases h3 : 1 ≤ kind ∧ kind ≤ 3
      · cases h4 : PO.lotsB lo sh
        · have e : PO.mv0E l m kind lo sh = 18 := by unfold PO.mv0E; rw [if_neg (by simp [h1]), if_neg (by simp [h2]), if_neg (by simp [h3]), if_pos (by simp [h4])]
          have e1 : PO.mvE l m kind s lo sh = 18 := by unfold PO.mvE; rw [e]; rfl
          have e2 : PO.mvA l m kind s lo sh = [] := by unfold PO.mvA; rw [e1]; rfl
          have e3 : PO.mvB l m kind s lo sh = [] := by unfold PO.mvB; rw [e1]; rfl
          rw [e1, e2, e3]
          rw [h1] at C1
          rw [h2] at C2
          rw [show (decide (1 ≤ kind) && decide (kind ≤ 3)) = true by simp [h3]] at C3
          clear e e1 e2 e3 h1 h2 h3 HQA HQB
          cases g1 : PO.okL lo
          · have CL1 := Lib.hid (fun ww => CL.out lo ww)
            rw [g1] at CL1
            clear g1 h4
            go_enter Try.func32, Try.ntmps32
            go_wp2_with fail
            generalize w.alloc (.cells #[.string s.prod, .int .i64 s.kind, .int .i64 s.expiry, .int .i64 s.strike] 44) = w0 at *
            refine (C1.out _ HI0.out).mono ?_
            rintro e w1 ⟨rfl, b1⟩
            have HB1 := Lib.hid (HB0.out.trans (b1.mono HB0.out.size))
            have HI1 := Lib.hid (HI0.out.below b1)
            have HJ1 := Lib.hid (HJ0.out.below b1)
            have HX1 := Lib.hid (HX0.out.below b1 HX0.out.lt)
            clear b1 HB0 HI0 HJ0 HX0 C1
            go_wp2_with fail
            refine (C2.out _ HJ1.out).mono ?_
            rintro e w2 ⟨rfl, b2⟩
            have HB2 := Lib.hid (HB1.out.trans (b2.mono HB1.out.size))
            have HI2 := Lib.hid (HI1.out.below b2)
            have HJ2 := Lib.hid (HJ1.out.below b2)
            have HX2 := Lib.hid (HX1.out.below b2 HX1.out.lt)
            clear b2 HB1 HI1 HJ1 HX1 C2
            go_wp2_with fail
            refine (C3.out _).mono ?_
            rintro e w3 ⟨rfl, rfl⟩
            go_wp2_with fail
            refine (CL1.out _).mono ?_
            rintro e w3 ⟨rfl, rfl⟩
            go_wp2_with fail
            exact bodyPost_ret (results_ttt15 rfl _ _ _) rfl ⟨none, none, 0, 0, rfl, TR.nil _ _, TR.nil _ _, HB2.out⟩
          · cases g2 : PO.okL sh
            · have CL1 := Lib.hid (fun ww => CL.out lo ww)
              rw [g1] at CL1
              have CL2 := Lib.hid (fun ww => CL.out sh ww)
              rw [g2] at CL2
              clear g1 g2 h4
              go_enter Try.func32, Try.ntmps32
              go_wp2_with fail
              generalize w.alloc (.cells #[.string s.prod, .int .i64 s.kind, .int .i64 s.expiry, .int .i64 s.strike] 44) = w0 at *
              refine (C1.out _ HI0.out).mono ?_
              rintro e w1 ⟨rfl, b1⟩
              have HB1 := Lib.hid (HB0.out.trans (b1.mono HB0.out.size))
              have HI1 := Lib.hid (HI0.out.below b1)
              have HJ1 := Lib.hid (HJ0.out.below b1)
              have HX1 := Lib.hid (HX0.out.below b1 HX0.out.lt)
              clear b1 HB0 HI0 HJ0 HX0 C1
              go_wp2_with fail
              refine (C2.out _ HJ1.out).mono ?_
              rintro e w2 ⟨rfl, b2⟩
              have HB2 := Lib.hid (HB1.out.trans (b2.mono HB1.out.size))
              have HI2 := Lib.hid (HI1.out.below b2)
              have HJ2 := Lib.hid (HJ1.out.below b2)
              have HX2 := Lib.hid (HX1.out.below b2 HX1.out.lt)
              clear b2 HB1 HI1 HJ1 HX1 C2
              go_wp2_with fail
              refine (C3.out _).mono ?_
              rintro e w3 ⟨rfl, rfl⟩
              go_wp2_with fail
              refine (CL1.out _).mono ?_
              rintro e w3 ⟨rfl, rfl⟩
              go_wp2_with fail
              refine (CL2.out _).mono ?_
              rintro e w3 ⟨rfl, rfl⟩
              go_wp2_with fail
              exact bodyPost_ret (results_ttt15 rfl _ _ _) rfl ⟨none, none, 0, 0, rfl, TR.nil _ _, TR.nil _ _, HB2.out⟩
            · have hz : lo + sh = 0 := by
                have a1 := PO.okL_iff.1 g1
                have a2 := PO.okL_iff.1 g2
                have : ¬ PO.lotsB lo sh = true := by rw [h4]; simp
                rw [PO.lotsB_iff] at this
                omega
              have a1 := PO.okL_iff.1 g1
              have a2 := PO.okL_iff.1 g2
              have CL1 := Lib.hid (fun ww => CL.out lo ww)
              rw [g1] at CL1
              have CL2 := Lib.hid (fun ww => CL.out sh ww)
              rw [g2] at CL2
              obtain rfl : lo = 0 := by omega
              obtain rfl : sh = 0 := by omega
              clear g1 g2 h4 hz a1 a2
              go_enter Try.func32, Try.ntmps32
              go_wp2_with fail
              generalize w.alloc (.cells #[.string s.prod, .int .i64 s.kind, .int .i64 s.expiry, .int .i64 s.strike] 44) = w0 at *
              refine (C1.out _ HI0.out).mono ?_
              rintro e w1 ⟨rfl, b1⟩
              have HB1 := Lib.hid (HB0.out.trans (b1.mono HB0.out.size))
              have HI1 := Lib.hid (HI0.out.below b1)
              have HJ1 := Lib.hid (HJ0.out.below b1)
              have HX1 := Lib.hid (HX0.out.below b1 HX0.out.lt)
              clear b1 HB0 HI0 HJ0 HX0 C1
              go_wp2_with fail
              refine (C2.out _ HJ1.out).mono ?_
              rintro e w2 ⟨rfl, b2⟩
              have HB2 := Lib.hid (HB1.out.trans (b2.mono HB1.out.size))
              have HI2 := Lib.hid (HI1.out.below b2)
              have HJ2 := Lib.hid (HJ1.out.below b2)
              have HX2 := Lib.hid (HX1.out.below b2 HX1.out.lt)
              clear b2 HB1 HI1 HJ1 HX1 C2
              go_wp2_with fail
              refine (C3.out _).mono ?_
              rintro e w3 ⟨rfl, rfl⟩
              go_wp2_with fail
              refine (CL1.out _).mono ?_
              rintro e w3 ⟨rfl, rfl⟩
              go_wp2_with fail
              refine (CL2.out _).mono ?_
              rintro e w3 ⟨rfl, rfl⟩
              go_wp2_with fail
              exact bodyPost_ret (results_ttt15 rfl _ _ _) rfl ⟨none, none, 0, 0, rfl, TR.nil _ _, TR.nil _ _, HB2.out⟩
        · have e : PO.mv0E l m kind lo sh = 0 := by unfold PO.mv0E; rw [if_neg (by simp [h1]), if_neg (by simp [h2]), if_neg (by simp [h3]), if_neg (by simp [h4])]
          obtain ⟨⟨lo0, lo1⟩, ⟨sh0, sh1⟩, hpos⟩ := PO.lotsB_iff.1 h4
          have CL1 := Lib.hid (fun ww => CL.out lo ww)
          rw [PO.okL_iff.2 ⟨lo0, lo1⟩] at CL1
          have CL2 := Lib.hid (fun ww => CL.out sh ww)
          rw [PO.okL_iff.2 ⟨sh0, sh1⟩] at CL2
          have hls : ¬ lo + sh = 0 := by omega
          have zls : (lo + sh == 0) = false := by simpa using hls
          obtain ⟨hl128, _, hgd⟩ := PO.check_good h1
          have hf := PO.find_lots hgd s
          have C4 := Lib.hid (fun ww h => rfind15_any A l l.length ca rfl s ww h)
          have C5 := Lib.hid (fun p ww h => rput15_any A l l.length ca rfl (by omega) p ww h)
          have HLP : Hid (PO.lessP l s lo sh = ⟨s, (PO.findP l s).lo - lo, (PO.findP l s).sh - sh⟩) := Lib.hid rfl
          have HFS := Lib.hid (PO.find_ser l s)
          have HGE : Hid (PO.gvE l s lo sh = if (PO.findP l s).lo < lo ∨ (PO.findP l s).sh < sh then 30 else 0) := Lib.hid rfl
          have HPUT := Lib.hid (@PO.less_put l s lo sh h1 h4)
          have HLQ := Lib.hid (less_q HQL.out HSR.out (lo := lo) (sh := sh) h1 h4)
          have HME : Hid (PO.mvE l m kind s lo sh = if PO.gvE l s lo sh ≠ 0 then PO.gvE l s lo sh else PO.rcE m kind s lo sh) := Lib.hid (by unfold PO.mvE; rw [if_neg (by simp [e])])
          have HMA : Hid (PO.mvA l m kind s lo sh = if PO.mvE l m kind s lo sh = 0 then PO.gvL l s lo sh else []) := Lib.hid rfl
          have HMB : Hid (PO.mvB l m kind s lo sh = if PO.mvE l m kind s lo sh = 0 then PO.rcL m kind s lo sh else []) := Lib.hid rfl
          rw [h1] at C1
          rw [h2] at C2
          rw [show (decide (1 ≤ kind) && decide (kind ≤ 3)) = true by simp [h3]] at C3
          clear e h1 h2 h3 h4 hls hgd
          have HSQ := Lib.hid HSR.out
          generalize PO.findP l s = fp at *
          obtain rfl := HFS.out
          obtain ⟨⟨f1, f2⟩, f3, f4⟩ := hf
          generalize hmA : PO.mvA l m kind fp.ser lo sh = rA at *
          generalize hmB : PO.mvB l m kind fp.ser lo sh = rB at *
          generalize hmE : PO.mvE l m kind fp.ser lo sh = rE at *
          clear hmA hmB hmE
          by_cases hg : fp.lo < lo ∨ fp.sh < sh
          · have hg30 : PO.gvE l fp.ser lo sh = 30 := by rw [HGE.out, if_pos hg]
            have HE : Hid (rE = 30) := Lib.hid (by rw [HME.out, hg30]; rfl)
            have HA : Hid (rA = []) := Lib.hid (by rw [HMA.out, HE.out]; rfl)
            have HM : Hid (rB = []) := Lib.hid (by rw [HMB.out, HE.out]; rfl)
            clear hg30 HGE HME HMA HMB HPUT HLP C5 HQA HQB NO
            by_cases hg1 : fp.lo < lo
            · clear hg
              go_enter Try.func32, Try.ntmps32
              go_wp2_with fail
              generalize w.alloc (.cells #[.string fp.ser.prod, .int .i64 fp.ser.kind, .int .i64 fp.ser.expiry, .int .i64 fp.ser.strike] 44) = w0 at *
              refine (C1.out _ HI0.out).mono ?_
              rintro e w1 ⟨rfl, b1⟩
              have HB1 := Lib.hid (HB0.out.trans (b1.mono HB0.out.size))
              have HI1 := Lib.hid (HI0.out.below b1)
              have HJ1 := Lib.hid (HJ0.out.below b1)
              have HX1 := Lib.hid (HX0.out.below b1 HX0.out.lt)
              clear b1 HB0 HI0 HJ0 HX0 C1
              go_wp2_with fail
              refine (C2.out _ HJ1.out).mono ?_
              rintro e w2 ⟨rfl, b2⟩
              have HB2 := Lib.hid (HB1.out.trans (b2.mono HB1.out.size))
              have HI2 := Lib.hid (HI1.out.below b2)
              have HJ2 := Lib.hid (HJ1.out.below b2)
              have HX2 := Lib.hid (HX1.out.below b2 HX1.out.lt)
              clear b2 HB1 HI1 HJ1 HX1 C2
              go_wp2_with fail
              refine (C3.out _).mono ?_
              rintro e w3 ⟨rfl, rfl⟩
              go_wp2_with fail
              refine (CL1.out _).mono ?_
              rintro e w3 ⟨rfl, rfl⟩
              go_wp2_with fail
              refine (CL2.out _).mono ?_
              rintro e w3 ⟨rfl, rfl⟩
              obtain ⟨x0, x1, x2, x3⟩ := HX2.out.cells
              have xl := HX2.out.lt
              go_wp2_with fail
              refine (C4.out _ HI2.out).mono ?_
              rintro e w4 ⟨rfl, b4⟩
              have HBF := Lib.hid ((Below.refl w4.heap.size w4).alloc (Nat.le_refl _) (.cells #[.string fp.ser.prod, .int .i64 fp.ser.kind, .int .i64 fp.ser.expiry, .int .i64 fp.ser.strike, .int .i64 fp.lo, .int .i64 fp.sh] 46))
              have HBa := Lib.hid (HB2.out.trans (b4.mono HB2.out.size))
              have HIa := Lib.hid (HI2.out.below b4)
              have HJa := Lib.hid (HJ2.out.below b4)
              have HXa := Lib.hid (HX2.out.below b4 HX2.out.lt)
              have HF3 := Lib.hid (CB.new w4 46 #[.string fp.ser.prod, .int .i64 fp.ser.kind, .int .i64 fp.ser.expiry, .int .i64 fp.ser.strike, .int .i64 fp.lo, .int .i64 fp.sh])
              clear b4 HB2 HI2 HJ2 HX2 x0 x1 x2 x3 xl C4 C3 CL1 CL2
              have g0 := HF3.out.cell 0
              have g1 := HF3.out.cell 1
              have g2 := HF3.out.cell 2
              have g3 := HF3.out.cell 3
              have g4 := HF3.out.cell 4
              have g5 := HF3.out.cell 5
              have r4 := HF3.out.frozen 4
              have r5 := HF3.out.frozen 5
              simp only [List.getElem?_toArray, List.getElem?_cons_zero, List.getElem?_cons_succ] at g0 g1 g2 g3 g4 g5
              obtain ⟨wf, hwf⟩ : ∃ wf, w4.alloc (.cells #[.string fp.ser.prod, .int .i64 fp.ser.kind, .int .i64 fp.ser.expiry, .int .i64 fp.ser.strike, .int .i64 fp.lo, .int .i64 fp.sh] 46) = wf := ⟨_, rfl⟩
              rw [hwf] at g0 g1 g2 g3 g4 g5 r4 r5 HF3 HBF
              go_wp2_with fail
              exact bodyPost_ret (results_ttt15 rfl _ _ _) rfl ⟨none, none, 0, 0, by rw [HE.out, HA.out, HM.out] <;> rfl, by rw [HA.out]; exact TR.nil _ _, by rw [HM.out]; exact TR.nil _ _, HBa.out.trans (HBF.out.mono HBa.out.size)⟩
            · have hg2 : fp.sh < sh := by omega
              have hd1 : decide (fp.lo < lo) = false := decide_eq_false hg1
              clear hg
              go_enter Try.func32, Try.ntmps32
              go_wp2_with fail
              generalize w.alloc (.cells #[.string fp.ser.prod, .int .i64 fp.ser.kind, .int .i64 fp.ser.expiry, .int .i64 fp.ser.strike] 44) = w0 at *
              refine (C1.out _ HI0.out).mono ?_
              rintro e w1 ⟨rfl, b1⟩
              have HB1 := Lib.hid (HB0.out.trans (b1.mono HB0.out.size))
              have HI1 := Lib.hid (HI0.out.below b1)
              have HJ1 := Lib.hid (HJ0.out.below b1)
              have HX1 := Lib.hid (HX0.out.below b1 HX0.out.lt)
              clear b1 HB0 HI0 HJ0 HX0 C1
              go_wp2_with fail
              refine (C2.out _ HJ1.out).mono ?_
              rintro e w2 ⟨rfl, b2⟩
              have HB2 := Lib.hid (HB1.out.trans (b2.mono HB1.out.size))
              have HI2 := Lib.hid (HI1.out.below b2)
              have HJ2 := Lib.hid (HJ1.out.below b2)
              have HX2 := Lib.hid (HX1.out.below b2 HX1.out.lt)
              clear b2 HB1 HI1 HJ1 HX1 C2
              go_wp2_with fail
              refine (C3.out _).mono ?_
              rintro e w3 ⟨rfl, rfl⟩
              go_wp2_with fail
              refine (CL1.out _).mono ?_
              rintro e w3 ⟨rfl, rfl⟩
              go_wp2_with fail
              refine (CL2.out _).mono ?_
              rintro e w3 ⟨rfl, rfl⟩
              obtain ⟨x0, x1, x2, x3⟩ := HX2.out.cells
              have xl := HX2.out.lt
              go_wp2_with fail
              refine (C4.out _ HI2.out).mono ?_
              rintro e w4 ⟨rfl, b4⟩
              have HBF := Lib.hid ((Below.refl w4.heap.size w4).alloc (Nat.le_refl _) (.cells #[.string fp.ser.prod, .int .i64 fp.ser.kind, .int .i64 fp.ser.expiry, .int .i64 fp.ser.strike, .int .i64 fp.lo, .int .i64 fp.sh] 46))
              have HBa := Lib.hid (HB2.out.trans (b4.mono HB2.out.size))
              have HIa := Lib.hid (HI2.out.below b4)
              have HJa := Lib.hid (HJ2.out.below b4)
              have HXa := Lib.hid (HX2.out.below b4 HX2.out.lt)
              have HF3 := Lib.hid (CB.new w4 46 #[.string fp.ser.prod, .int .i64 fp.ser.kind, .int .i64 fp.ser.expiry, .int .i64 fp.ser.strike, .int .i64 fp.lo, .int .i64 fp.sh])
              clear b4 HB2 HI2 HJ2 HX2 x0 x1 x2 x3 xl C4 C3 CL1 CL2
              have g0 := HF3.out.cell 0
              have g1 := HF3.out.cell 1
              have g2 := HF3.out.cell 2
              have g3 := HF3.out.cell 3
              have g4 := HF3.out.cell 4
              have g5 := HF3.out.cell 5
              have r4 := HF3.out.frozen 4
              have r5 := HF3.out.frozen 5
              simp only [List.getElem?_toArray, List.getElem?_cons_zero, List.getElem?_cons_succ] at g0 g1 g2 g3 g4 g5
              obtain ⟨wf, hwf⟩ : ∃ wf, w4.alloc (.cells #[.string fp.ser.prod, .int .i64 fp.ser.kind, .int .i64 fp.ser.expiry, .int .i64 fp.ser.strike, .int .i64 fp.lo, .int .i64 fp.sh] 46) = wf := ⟨_, rfl⟩
              rw [hwf] at g0 g1 g2 g3 g4 g5 r4 r5 HF3 HBF
              go_wp2_with fail
              exact bodyPost_ret (results_ttt15 rfl _ _ _) rfl ⟨none, none, 0, 0, by rw [HE.out, HA.out, HM.out] <;> rfl, by rw [HA.out]; exact TR.nil _ _, by rw [HM.out]; exact TR.nil _ _, HBa.out.trans (HBF.out.mono HBa.out.size)⟩
          · have hd1 : decide (fp.lo < lo) = false := decide_eq_false (by omega)
            have hd2 : decide (fp.sh < sh) = false := decide_eq_false (by omega)
            have hg1 : ¬ fp.lo < lo := by omega
            have hg2 : ¬ fp.sh < sh := by omega
            have hg0 : PO.gvE l fp.ser lo sh = 0 := by rw [HGE.out, if_neg hg]
            have HE : Hid (rE = PO.rcE m kind fp.ser lo sh) := Lib.hid (by rw [HME.out, hg0]; rfl)
            have hput := HPUT.out hg0
            have HGQ : Hid (∀ p ∈ PO.gvL l fp.ser lo sh, posQ p) := Lib.hid (HLQ.out)
            have C6 := fun ww h => C5.out (PO.lessP l fp.ser lo sh) ww h
            rw [hput] at C6
            have hpa : posA (PO.lessP l fp.ser lo sh) = .agg #[.string fp.ser.prod, .int .i64 fp.ser.kind, .int .i64 fp.ser.expiry, .int .i64 fp.ser.strike, .int .i64 (fp.lo - lo), .int .i64 (fp.sh - sh)] := by rw [HLP.out]
            rw [hpa] at C6
            have C6 := Lib.hid C6
            generalize PO.gvL l fp.ser lo sh = ga at *
            generalize PO.putE l (PO.lessP l fp.ser lo sh) = pe at *
            clear hg hg0 HGE HME HPUT HLP C5 hput hpa HLQ
            have HRC : Hid (PO.rcE m kind fp.ser lo sh = if PO.r1E m kind fp.ser lo ≠ 0 then PO.r1E m kind fp.ser lo else PO.r1E (PO.r1L m kind fp.ser lo) kind fp.ser (-sh)) := Lib.hid rfl
            have HRL : Hid (PO.rcL m kind fp.ser lo sh = if PO.rcE m kind fp.ser lo sh = 0 then PO.r1L (PO.r1L m kind fp.ser lo) kind fp.ser (-sh) else []) := Lib.hid rfl
            by_cases hlo : lo = 0
            · have zlo : decide (0 < lo) = false := decide_eq_false (by omega)
              have hsh : 0 < sh := by omega
              have K1 : PO.rcE m kind fp.ser lo sh = PO.applyE m kind fp.ser (-sh) 0 := by rw [HRC.out]; unfold PO.r1E PO.r1L; rw [if_pos hlo, if_neg (by simp), if_pos hlo, if_neg (by omega)]
              have K2 : PO.rcL m kind fp.ser lo sh = PO.applyL m kind fp.ser (-sh) 0 := by
                rw [HRL.out, K1]; unfold PO.r1L
                by_cases h : PO.applyE m kind fp.ser (-sh) 0 = 0
                · rw [if_pos h, if_pos hlo, if_neg (by omega)]
                · rw [if_neg h, PO.apply_no h]
              have CA := Lib.hid (fun ww h => rapply15_any B m m.length cb rfl kind (sleg fp.ser (-sh)) 0 ww h)
              have HQ2 := Lib.hid (apply_posQ HQM.out HSQ.out kind (-sh) 0)
              rw [K2] at HMB
              rw [K1] at HE
              generalize PO.applyE m kind fp.ser (-sh) 0 = E2 at *
              generalize PO.applyL m kind fp.ser (-sh) 0 = L2 at *
              clear K1 K2 HRC HRL HQA HQB HSR HSQ HQL HQM NO hlo
              go_enter Try.func32, Try.ntmps32
              go_wp2_with fail
              generalize w.alloc (.cells #[.string fp.ser.prod, .int .i64 fp.ser.kind, .int .i64 fp.ser.expiry, .int .i64 fp.ser.strike] 44) = w0 at *
              refine (C1.out _ HI0.out).mono ?_
              rintro e w1 ⟨rfl, b1⟩
              have HB1 := Lib.hid (HB0.out.trans (b1.mono HB0.out.size))
              have HI1 := Lib.hid (HI0.out.below b1)
              have HJ1 := Lib.hid (HJ0.out.below b1)
              have HX1 := Lib.hid (HX0.out.below b1 HX0.out.lt)
              clear b1 HB0 HI0 HJ0 HX0 C1
              go_wp2_with fail
              refine (C2.out _ HJ1.out).mono ?_
              rintro e w2 ⟨rfl, b2⟩
              have HB2 := Lib.hid (HB1.out.trans (b2.mono HB1.out.size))
              have HI2 := Lib.hid (HI1.out.below b2)
              have HJ2 := Lib.hid (HJ1.out.below b2)
              have HX2 := Lib.hid (HX1.out.below b2 HX1.out.lt)
              clear b2 HB1 HI1 HJ1 HX1 C2
              go_wp2_with fail
              refine (C3.out _).mono ?_
              rintro e w3 ⟨rfl, rfl⟩
              go_wp2_with fail
              refine (CL1.out _).mono ?_
              rintro e w3 ⟨rfl, rfl⟩
              go_wp2_with fail
              refine (CL2.out _).mono ?_
              rintro e w3 ⟨rfl, rfl⟩
              obtain ⟨x0, x1, x2, x3⟩ := HX2.out.cells
              have xl := HX2.out.lt
              go_wp2_with fail
              refine (C4.out _ HI2.out).mono ?_
              rintro e w4 ⟨rfl, b4⟩
              have HBF := Lib.hid ((Below.refl w4.heap.size w4).alloc (Nat.le_refl _) (.cells #[.string fp.ser.prod, .int .i64 fp.ser.kind, .int .i64 fp.ser.expiry, .int .i64 fp.ser.strike, .int .i64 fp.lo, .int .i64 fp.sh] 46))
              have HBa := Lib.hid (HB2.out.trans (b4.mono HB2.out.size))
              have HIa := Lib.hid (HI2.out.below b4)
              have HJa := Lib.hid (HJ2.out.below b4)
              have HXa := Lib.hid (HX2.out.below b4 HX2.out.lt)
              have HF3 := Lib.hid (CB.new w4 46 #[.string fp.ser.prod, .int .i64 fp.ser.kind, .int .i64 fp.ser.expiry, .int .i64 fp.ser.strike, .int .i64 fp.lo, .int .i64 fp.sh])
              clear b4 HB2 HI2 HJ2 HX2 x0 x1 x2 x3 xl C4 C3 CL1 CL2
              have g0 := HF3.out.cell 0
              have g1 := HF3.out.cell 1
              have g2 := HF3.out.cell 2
              have g3 := HF3.out.cell 3
              have g4 := HF3.out.cell 4
              have g5 := HF3.out.cell 5
              have r4 := HF3.out.frozen 4
              have r5 := HF3.out.frozen 5
              simp only [List.getElem?_toArray, List.getElem?_cons_zero, List.getElem?_cons_succ] at g0 g1 g2 g3 g4 g5
              obtain ⟨wf, hwf⟩ : ∃ wf, w4.alloc (.cells #[.string fp.ser.prod, .int .i64 fp.ser.kind, .int .i64 fp.ser.expiry, .int .i64 fp.ser.strike, .int .i64 fp.lo, .int .i64 fp.sh] 46) = wf := ⟨_, rfl⟩
              rw [hwf] at g0 g1 g2 g3 g4 g5 r4 r5 HF3 HBF
              have HBS : Hid (∀ a b, Below w4.heap.size w4 ((wf.setCell ⟨w4.heap.size, 4, none⟩ a).setCell ⟨w4.heap.size, 5, none⟩ b)) := Lib.hid (fun a b => (HBF.out.setCell (p := ⟨w4.heap.size, 4, none⟩) (Nat.le_refl _) a).setCell (p := ⟨w4.heap.size, 5, none⟩) (Nat.le_refl _) b)
              go_wp2_with fail
              refine (C6.out _ (HIa.out.below (by exact HBS.out _ _))).mono ?_
              rintro e w5 ⟨v5, rfl, o5, b5⟩
              obtain ⟨A5, k5, rfl, hR5, _⟩ := o5.recs
              have HG5 : Hid (Poss w5 A5 ga) := Lib.hid ⟨hR5, HGQ.out⟩
              have hbs := HBS.out (.int .i64 (fp.lo - lo)) (.int .i64 (fp.sh - sh))
              have HB5 := Lib.hid (HBa.out.trans ((hbs.trans (b5.mono hbs.size)).mono HBa.out.size))
              have HJ5 := Lib.hid ((HJa.out.below hbs).below (b5.mono (Nat.le_refl _)))
              have HX5 := Lib.hid (((show SBox _ w.heap.size fp.ser from HXa.out.below hbs HXa.out.lt)).below b5 (by have := hbs.size; have := HXa.out.lt; omega))
              have hgl : ga.length ≤ 9223372036854775807 := HG5.out.len
              rw [List.length_map]
              clear o5 b5 hR5 hbs HBS HBF HBa HIa HJa HXa HF3 g0 g1 g2 g3 g4 g5 r4 r5 hwf C6 HGQ
              obtain ⟨x0, x1, x2, x3⟩ := HX5.out.cells
              have xl := HX5.out.lt
              go_wp2_with fail
              refine (CA.out _ HJ5.out).mono ?_
              rintro e w6 ⟨v6, rfl, o6, b6⟩
              obtain ⟨A6, k6, rfl, hR6, _⟩ := o6.recs
              have HL6 : Hid (Poss w6 A6 L2) := Lib.hid ⟨hR6, HQ2.out⟩
              have HG6 := Lib.hid (HG5.out.below b6)
              have HB6 := Lib.hid (HB5.out.trans (b6.mono HB5.out.size))
              rw [List.length_map]
              clear o6 b6 hR6 x0 x1 x2 x3 xl
              by_cases hE2 : E2 = 0
              · have HA : Hid (rA = ga) := Lib.hid (by rw [HMA.out, HE.out, if_pos hE2])
                have HM : Hid (rB = L2) := Lib.hid (by rw [HMB.out, HE.out, if_pos hE2])
                subst hE2
                clear HMA HMB
                go_wp2_with fail
                exact bodyPost_ret (results_ttt15 rfl _ _ _) rfl ⟨_, _, _, _, by rw [HE.out, HA.out, HM.out] <;> rfl, by rw [HA.out]; exact HG6.out, by rw [HM.out]; exact HL6.out, HB6.out⟩
              · have HA : Hid (rA = []) := Lib.hid (by rw [HMA.out, HE.out, if_neg hE2])
                have HM : Hid (rB = []) := Lib.hid (by rw [HMB.out, HE.out, if_neg hE2])
                have zE2 : (E2 != 0) = true := by simpa using hE2
                clear HMA HMB hE2
                go_wp2_with fail
                exact bodyPost_ret (results_ttt15 rfl _ _ _) rfl ⟨none, none, 0, 0, by rw [HE.out, HA.out, HM.out] <;> rfl, by rw [HA.out]; exact TR.nil _ _, by rw [HM.out]; exact TR.nil _ _, HB6.out⟩
            · have hlo0 : 0 < lo := by omega
              have zlo : ¬ lo = 0 := hlo
              have K0 : PO.r1E m kind fp.ser lo = PO.applyE m kind fp.ser lo 0 := by unfold PO.r1E; rw [if_neg hlo]
              have K0L : PO.r1L m kind fp.ser lo = PO.applyL m kind fp.ser lo 0 := by unfold PO.r1L; rw [if_neg hlo]
              rw [K0, K0L] at HRC
              rw [K0L] at HRL
              have CA := Lib.hid (fun ww h => rapply15_any B m m.length cb rfl kind (sleg fp.ser lo) 0 ww h)
              have HQ1 := Lib.hid (apply_posQ HQM.out HSQ.out kind lo 0)
              generalize PO.applyE m kind fp.ser lo 0 = E1 at *
              generalize PO.applyL m kind fp.ser lo 0 = L1 at *
              clear K0 K0L HQA HQB HSR HQL HQM NO hlo
              by_cases hE1 : E1 = 0
              · subst hE1
                rw [if_neg (by simp)] at HRC
                by_cases hsh : sh = 0
                · have zsh : decide (0 < sh) = false := decide_eq_false (by omega)
                  have K1 : PO.rcE m kind fp.ser lo sh = 0 := by rw [HRC.out]; unfold PO.r1E; rw [if_pos (by omega)]
                  have K2 : PO.rcL m kind fp.ser lo sh = L1 := by rw [HRL.out, if_pos K1]; unfold PO.r1L; rw [if_pos (by omega)]
                  rw [K1] at HE
                  rw [K2] at HMB
                  have HA : Hid (rA = ga) := Lib.hid (by rw [HMA.out, HE.out]; rfl)
                  have HM : Hid (rB = L1) := Lib.hid (by rw [HMB.out, HE.out]; rfl)
                  clear K1 K2 HRC HRL HSQ HMA HMB hsh
                  go_enter Try.func32, Try.ntmps32
                  go_wp2_with fail
                  generalize w.alloc (.cells #[.string fp.ser.prod, .int .i64 fp.ser.kind, .int .i64 fp.ser.expiry, .int .i64 fp.ser.strike] 44) = w0 at *
                  refine (C1.out _ HI0.out).mono ?_
                  rintro e w1 ⟨rfl, b1⟩
                  have HB1 := Lib.hid (HB0.out.trans (b1.mono HB0.out.size))
                  have HI1 := Lib.hid (HI0.out.below b1)
                  have HJ1 := Lib.hid (HJ0.out.below b1)
                  have HX1 := Lib.hid (HX0.out.below b1 HX0.out.lt)
                  clear b1 HB0 HI0 HJ0 HX0 C1
                  go_wp2_with fail
                  refine (C2.out _ HJ1.out).mono ?_
                  rintro e w2 ⟨rfl, b2⟩
                  have HB2 := Lib.hid (HB1.out.trans (b2.mono HB1.out.size))
                  have HI2 := Lib.hid (HI1.out.below b2)
                  have HJ2 := Lib.hid (HJ1.out.below b2)
                  have HX2 := Lib.hid (HX1.out.below b2 HX1.out.lt)
                  clear b2 HB1 HI1 HJ1 HX1 C2
                  go_wp2_with fail
                  refine (C3.out _).mono ?_
                  rintro e w3 ⟨rfl, rfl⟩
                  go_wp2_with fail
                  refine (CL1.out _).mono ?_
                  rintro e w3 ⟨rfl, rfl⟩
                  go_wp2_with fail
                  refine (CL2.out _).mono ?_
                  rintro e w3 ⟨rfl, rfl⟩
                  obtain ⟨x0, x1, x2, x3⟩ := HX2.out.cells
                  have xl := HX2.out.lt
                  go_wp2_with fail
                  refine (C4.out _ HI2.out).mono ?_
                  rintro e w4 ⟨rfl, b4⟩
                  have HBF := Lib.hid ((Below.refl w4.heap.size w4).alloc (Nat.le_refl _) (.cells #[.string fp.ser.prod, .int .i64 fp.ser.kind, .int .i64 fp.ser.expiry, .int .i64 fp.ser.strike, .int .i64 fp.lo, .int .i64 fp.sh] 46))
                  have HBa := Lib.hid (HB2.out.trans (b4.mono HB2.out.size))
                  have HIa := Lib.hid (HI2.out.below b4)
                  have HJa := Lib.hid (HJ2.out.below b4)
                  have HXa := Lib.hid (HX2.out.below b4 HX2.out.lt)
                  have HF3 := Lib.hid (CB.new w4 46 #[.string fp.ser.prod, .int .i64 fp.ser.kind, .int .i64 fp.ser.expiry, .int .i64 fp.ser.strike, .int .i64 fp.lo, .int .i64 fp.sh])
                  clear b4 HB2 HI2 HJ2 HX2 x0 x1 x2 x3 xl C4 C3 CL1 CL2
                  have g0 := HF3.out.cell 0
                  have g1 := HF3.out.cell 1
                  have g2 := HF3.out.cell 2
                  have g3 := HF3.out.cell 3
                  have g4 := HF3.out.cell 4
                  have g5 := HF3.out.cell 5
                  have r4 := HF3.out.frozen 4
                  have r5 := HF3.out.frozen 5
                  simp only [List.getElem?_toArray, List.getElem?_cons_zero, List.getElem?_cons_succ] at g0 g1 g2 g3 g4 g5
                  obtain ⟨wf, hwf⟩ : ∃ wf, w4.alloc (.cells #[.string fp.ser.prod, .int .i64 fp.ser.kind, .int .i64 fp.ser.expiry, .int .i64 fp.ser.strike, .int .i64 fp.lo, .int .i64 fp.sh] 46) = wf := ⟨_, rfl⟩
                  rw [hwf] at g0 g1 g2 g3 g4 g5 r4 r5 HF3 HBF
                  have HBS : Hid (∀ a b, Below w4.heap.size w4 ((wf.setCell ⟨w4.heap.size, 4, none⟩ a).setCell ⟨w4.heap.size, 5, none⟩ b)) := Lib.hid (fun a b => (HBF.out.setCell (p := ⟨w4.heap.size, 4, none⟩) (Nat.le_refl _) a).setCell (p := ⟨w4.heap.size, 5, none⟩) (Nat.le_refl _) b)
                  go_wp2_with fail
                  refine (C6.out _ (HIa.out.below (by exact HBS.out _ _))).mono ?_
                  rintro e w5 ⟨v5, rfl, o5, b5⟩
                  obtain ⟨A5, k5, rfl, hR5, _⟩ := o5.recs
                  have HG5 : Hid (Poss w5 A5 ga) := Lib.hid ⟨hR5, HGQ.out⟩
                  have hbs := HBS.out (.int .i64 (fp.lo - lo)) (.int .i64 (fp.sh - sh))
                  have HB5 := Lib.hid (HBa.out.trans ((hbs.trans (b5.mono hbs.size)).mono HBa.out.size))
                  have HJ5 := Lib.hid ((HJa.out.below hbs).below (b5.mono (Nat.le_refl _)))
                  have HX5 := Lib.hid (((show SBox _ w.heap.size fp.ser from HXa.out.below hbs HXa.out.lt)).below b5 (by have := hbs.size; have := HXa.out.lt; omega))
                  have hgl : ga.length ≤ 9223372036854775807 := HG5.out.len
                  rw [List.length_map]
                  clear o5 b5 hR5 hbs HBS HBF HBa HIa HJa HXa HF3 g0 g1 g2 g3 g4 g5 r4 r5 hwf C6 HGQ
                  obtain ⟨x0, x1, x2, x3⟩ := HX5.out.cells
                  have xl := HX5.out.lt
                  go_wp2_with fail
                  refine (CA.out _ HJ5.out).mono ?_
                  rintro e w6 ⟨v6, rfl, o6, b6⟩
                  obtain ⟨A6, k6, rfl, hR6, _⟩ := o6.recs
                  have HL6 : Hid (Poss w6 A6 L1) := Lib.hid ⟨hR6, HQ1.out⟩
                  have HG6 := Lib.hid (HG5.out.below b6)
                  have HB6 := Lib.hid (HB5.out.trans (b6.mono HB5.out.size))
                  rw [List.length_map]
                  clear o6 b6 hR6 x0 x1 x2 x3 xl
                  go_wp2_with fail
                  exact bodyPost_ret (results_ttt15 rfl _ _ _) rfl ⟨_, _, _, _, by rw [HE.out, HA.out, HM.out] <;> rfl, by rw [HA.out]; exact HG6.out, by rw [HM.out]; exact HL6.out, HB6.out⟩
                · have hsh0 : 0 < sh := by omega
                  have K1 : PO.rcE m kind fp.ser lo sh = PO.applyE L1 kind fp.ser (-sh) 0 := by rw [HRC.out]; unfold PO.r1E; rw [if_neg (by omega)]
                  have K2 : PO.rcL m kind fp.ser lo sh = PO.applyL L1 kind fp.ser (-sh) 0 := by
                    rw [HRL.out, K1]; unfold PO.r1L
                    by_cases h : PO.applyE L1 kind fp.ser (-sh) 0 = 0
                    · rw [if_pos h, if_neg (by omega)]
                    · rw [if_neg h, PO.apply_no h]
                  have CA2 := Lib.hid (fun A7 k7 ww h => rapply15_any A7 L1 L1.length k7 rfl kind (sleg fp.ser (-sh)) 0 ww h)
                  have HQ2 := Lib.hid (apply_posQ HQ1.out HSQ.out kind (-sh) 0)
                  rw [K2] at HMB
                  rw [K1] at HE
                  generalize PO.applyE L1 kind fp.ser (-sh) 0 = E2 at *
                  generalize PO.applyL L1 kind fp.ser (-sh) 0 = L2 at *
                  clear K1 K2 HRC HRL HSQ hsh
                  go_enter Try.func32, Try.ntmps32
                  go_wp2_with fail
                  generalize w.alloc (.cells #[.string fp.ser.prod, .int .i64 fp.ser.kind, .int .i64 fp.ser.expiry, .int .i64 fp.ser.strike] 44) = w0 at *
                  refine (C1.out _ HI0.out).mono ?_
                  rintro e w1 ⟨rfl, b1⟩
                  have HB1 := Lib.hid (HB0.out.trans (b1.mono HB0.out.size))
                  have HI1 := Lib.hid (HI0.out.below b1)
                  have HJ1 := Lib.hid (HJ0.out.below b1)
                  have HX1 := Lib.hid (HX0.out.below b1 HX0.out.lt)
                  clear b1 HB0 HI0 HJ0 HX0 C1
                  go_wp2_with fail
                  refine (C2.out _ HJ1.out).mono ?_
                  rintro e w2 ⟨rfl, b2⟩
                  have HB2 := Lib.hid (HB1.out.trans (b2.mono HB1.out.size))
                  have HI2 := Lib.hid (HI1.out.below b2)
                  have HJ2 := Lib.hid (HJ1.out.below b2)
                  have HX2 := Lib.hid (HX1.out.below b2 HX1.out.lt)
                  clear b2 HB1 HI1 HJ1 HX1 C2
                  go_wp2_with fail
                  refine (C3.out _).mono ?_
                  rintro e w3 ⟨rfl, rfl⟩
                  go_wp2_with fail
                  refine (CL1.out _).mono ?_
                  rintro e w3 ⟨rfl, rfl⟩
                  go_wp2_with fail
                  refine (CL2.out _).mono ?_
                  rintro e w3 ⟨rfl, rfl⟩
                  obtain ⟨x0, x1, x2, x3⟩ := HX2.out.cells
                  have xl := HX2.out.lt
                  go_wp2_with fail
                  refine (C4.out _ HI2.out).mono ?_
                  rintro e w4 ⟨rfl, b4⟩
                  have HBF := Lib.hid ((Below.refl w4.heap.size w4).alloc (Nat.le_refl _) (.cells #[.string fp.ser.prod, .int .i64 fp.ser.kind, .int .i64 fp.ser.expiry, .int .i64 fp.ser.strike, .int .i64 fp.lo, .int .i64 fp.sh] 46))
                  have HBa := Lib.hid (HB2.out.trans (b4.mono HB2.out.size))
                  have HIa := Lib.hid (HI2.out.below b4)
                  have HJa := Lib.hid (HJ2.out.below b4)
                  have HXa := Lib.hid (HX2.out.below b4 HX2.out.lt)
                  have HF3 := Lib.hid (CB.new w4 46 #[.string fp.ser.prod, .int .i64 fp.ser.kind, .int .i64 fp.ser.expiry, .int .i64 fp.ser.strike, .int .i64 fp.lo, .int .i64 fp.sh])
                  clear b4 HB2 HI2 HJ2 HX2 x0 x1 x2 x3 xl C4 C3 CL1 CL2
                  have g0 := HF3.out.cell 0
                  have g1 := HF3.out.cell 1
                  have g2 := HF3.out.cell 2
                  have g3 := HF3.out.cell 3
                  have g4 := HF3.out.cell 4
                  have g5 := HF3.out.cell 5
                  have r4 := HF3.out.frozen 4
                  have r5 := HF3.out.frozen 5
                  simp only [List.getElem?_toArray, List.getElem?_cons_zero, List.getElem?_cons_succ] at g0 g1 g2 g3 g4 g5
                  obtain ⟨wf, hwf⟩ : ∃ wf, w4.alloc (.cells #[.string fp.ser.prod, .int .i64 fp.ser.kind, .int .i64 fp.ser.expiry, .int .i64 fp.ser.strike, .int .i64 fp.lo, .int .i64 fp.sh] 46) = wf := ⟨_, rfl⟩
                  rw [hwf] at g0 g1 g2 g3 g4 g5 r4 r5 HF3 HBF
                  have HBS : Hid (∀ a b, Below w4.heap.size w4 ((wf.setCell ⟨w4.heap.size, 4, none⟩ a).setCell ⟨w4.heap.size, 5, none⟩ b)) := Lib.hid (fun a b => (HBF.out.setCell (p := ⟨w4.heap.size, 4, none⟩) (Nat.le_refl _) a).setCell (p := ⟨w4.heap.size, 5, none⟩) (Nat.le_refl _) b)
                  go_wp2_with fail
                  refine (C6.out _ (HIa.out.below (by exact HBS.out _ _))).mono ?_
                  rintro e w5 ⟨v5, rfl, o5, b5⟩
                  obtain ⟨A5, k5, rfl, hR5, _⟩ := o5.recs
                  have HG5 : Hid (Poss w5 A5 ga) := Lib.hid ⟨hR5, HGQ.out⟩
                  have hbs := HBS.out (.int .i64 (fp.lo - lo)) (.int .i64 (fp.sh - sh))
                  have HB5 := Lib.hid (HBa.out.trans ((hbs.trans (b5.mono hbs.size)).mono HBa.out.size))
                  have HJ5 := Lib.hid ((HJa.out.below hbs).below (b5.mono (Nat.le_refl _)))
                  have HX5 := Lib.hid (((show SBox _ w.heap.size fp.ser from HXa.out.below hbs HXa.out.lt)).below b5 (by have := hbs.size; have := HXa.out.lt; omega))
                  have hgl : ga.length ≤ 9223372036854775807 := HG5.out.len
                  rw [List.length_map]
                  clear o5 b5 hR5 hbs HBS HBF HBa HIa HJa HXa HF3 g0 g1 g2 g3 g4 g5 r4 r5 hwf C6 HGQ
                  obtain ⟨x0, x1, x2, x3⟩ := HX5.out.cells
                  have xl := HX5.out.lt
                  go_wp2_with fail
                  refine (CA.out _ HJ5.out).mono ?_
                  rintro e w7 ⟨v7, rfl, o7, b7⟩
                  obtain ⟨A7, k7, rfl, hR7, _⟩ := o7.recs
                  have HL7 : Hid (Poss w7 A7 L1) := Lib.hid ⟨hR7, HQ1.out⟩
                  have HG7 := Lib.hid (HG5.out.below b7)
                  have HB7 := Lib.hid (HB5.out.trans (b7.mono HB5.out.size))
                  have HX7 := Lib.hid (HX5.out.below b7 HX5.out.lt)
                  have hl1 : L1.length ≤ 9223372036854775807 := HL7.out.len
                  rw [List.length_map]
                  clear o7 b7 hR7 x0 x1 x2 x3 xl HX5 HG5 HB5 HJ5 CA
                  obtain ⟨x0, x1, x2, x3⟩ := HX7.out.cells
                  have xl := HX7.out.lt
                  go_wp2_with fail
                  refine (CA2.out _ _ _ HL7.out).mono ?_
                  rintro e w6 ⟨v6, rfl, o6, b6⟩
                  obtain ⟨A6, k6, rfl, hR6, _⟩ := o6.recs
                  have HL6 : Hid (Poss w6 A6 L2) := Lib.hid ⟨hR6, HQ2.out⟩
                  have HG6 := Lib.hid (HG7.out.below b6)
                  have HB6 := Lib.hid (HB7.out.trans (b6.mono HB7.out.size))
                  rw [List.length_map]
                  clear o6 b6 hR6 x0 x1 x2 x3 xl
                  by_cases hE2 : E2 = 0
                  · have HA : Hid (rA = ga) := Lib.hid (by rw [HMA.out, HE.out, if_pos hE2])
                    have HM : Hid (rB = L2) := Lib.hid (by rw [HMB.out, HE.out, if_pos hE2])
                    subst hE2
                    clear HMA HMB
                    go_wp2_with fail
                    exact bodyPost_ret (results_ttt15 rfl _ _ _) rfl ⟨_, _, _, _, by rw [HE.out, HA.out, HM.out] <;> rfl, by rw [HA.out]; exact HG6.out, by rw [HM.out]; exact HL6.out, HB6.out⟩
                  · have HA : Hid (rA = []) := Lib.hid (by rw [HMA.out, HE.out, if_neg hE2])
                    have HM : Hid (rB = []) := Lib.hid (by rw [HMB.out, HE.out, if_neg hE2])
                    have zE2 : (E2 != 0) = true := by simpa using hE2
                    clear HMA HMB hE2
                    go_wp2_with fail
                    exact bodyPost_ret (results_ttt15 rfl _ _ _) rfl ⟨none, none, 0, 0, by rw [HE.out, HA.out, HM.out] <;> rfl, by rw [HA.out]; exact TR.nil _ _, by rw [HM.out]; exact TR.nil _ _, HB6.out⟩
              · rw [if_pos hE1] at HRC
                have HEE : Hid (rE = E1) := Lib.hid (by rw [HE.out, HRC.out])
                have HA : Hid (rA = []) := Lib.hid (by rw [HMA.out, HEE.out, if_neg hE1])
                have HM : Hid (rB = []) := Lib.hid (by rw [HMB.out, HEE.out, if_neg hE1])
                have zE : (E1 == 0) = false := by simpa using hE1
                have zE2 : (E1 != 0) = true := by simpa using hE1
                clear HRC HRL HSQ HMA HMB HE hE1
                go_enter Try.func32, Try.ntmps32
                go_wp2_with fail
                generalize w.alloc (.cells #[.string fp.ser.prod, .int .i64 fp.ser.kind, .int .i64 fp.ser.expiry, .int .i64 fp.ser.strike] 44) = w0 at *
                refine (C1.out _ HI0.out).mono ?_
                rintro e w1 ⟨rfl, b1⟩
                have HB1 := Lib.hid (HB0.out.trans (b1.mono HB0.out.size))
                have HI1 := Lib.hid (HI0.out.below b1)
                have HJ1 := Lib.hid (HJ0.out.below b1)
                have HX1 := Lib.hid (HX0.out.below b1 HX0.out.lt)
                clear b1 HB0 HI0 HJ0 HX0 C1
                go_wp2_with fail
                refine (C2.out _ HJ1.out).mono ?_
                rintro e w2 ⟨rfl, b2⟩
                have HB2 := Lib.hid (HB1.out.trans (b2.mono HB1.out.size))
                have HI2 := Lib.hid (HI1.out.below b2)
                have HJ2 := Lib.hid (HJ1.out.below b2)
                have HX2 := Lib.hid (HX1.out.below b2 HX1.out.lt)
                clear b2 HB1 HI1 HJ1 HX1 C2
                go_wp2_with fail
                refine (C3.out _).mono ?_
                rintro e w3 ⟨rfl, rfl⟩
                go_wp2_with fail
                refine (CL1.out _).mono ?_
                rintro e w3 ⟨rfl, rfl⟩
                go_wp2_with fail
                refine (CL2.out _).mono ?_
                rintro e w3 ⟨rfl, rfl⟩
                obtain ⟨x0, x1, x2, x3⟩ := HX2.out.cells
                have xl := HX2.out.lt
                go_wp2_with fail
                refine (C4.out _ HI2.out).mono ?_
                rintro e w4 ⟨rfl, b4⟩
                have HBF := Lib.hid ((Below.refl w4.heap.size w4).alloc (Nat.le_refl _) (.cells #[.string fp.ser.prod, .int .i64 fp.ser.kind, .int .i64 fp.ser.expiry, .int .i64 fp.ser.strike, .int .i64 fp.lo, .int .i64 fp.sh] 46))
                have HBa := Lib.hid (HB2.out.trans (b4.mono HB2.out.size))
                have HIa := Lib.hid (HI2.out.below b4)
                have HJa := Lib.hid (HJ2.out.below b4)
                have HXa := Lib.hid (HX2.out.below b4 HX2.out.lt)
                have HF3 := Lib.hid (CB.new w4 46 #[.string fp.ser.prod, .int .i64 fp.ser.kind, .int .i64 fp.ser.expiry, .int .i64 fp.ser.strike, .int .i64 fp.lo, .int .i64 fp.sh])
                clear b4 HB2 HI2 HJ2 HX2 x0 x1 x2 x3 xl C4 C3 CL1 CL2
                have g0 := HF3.out.cell 0
                have g1 := HF3.out.cell 1
                have g2 := HF3.out.cell 2
                have g3 := HF3.out.cell 3
                have g4 := HF3.out.cell 4
                have g5 := HF3.out.cell 5
                have r4 := HF3.out.frozen 4
                have r5 := HF3.out.frozen 5
                simp only [List.getElem?_toArray, List.getElem?_cons_zero, List.getElem?_cons_succ] at g0 g1 g2 g3 g4 g5
                obtain ⟨wf, hwf⟩ : ∃ wf, w4.alloc (.cells #[.string fp.ser.prod, .int .i64 fp.ser.kind, .int .i64 fp.ser.expiry, .int .i64 fp.ser.strike, .int .i64 fp.lo, .int .i64 fp.sh] 46) = wf := ⟨_, rfl⟩
                rw [hwf] at g0 g1 g2 g3 g4 g5 r4 r5 HF3 HBF
                have HBS : Hid (∀ a b, Below w4.heap.size w4 ((wf.setCell ⟨w4.heap.size, 4, none⟩ a).setCell ⟨w4.heap.size, 5, none⟩ b)) := Lib.hid (fun a b => (HBF.out.setCell (p := ⟨w4.heap.size, 4, none⟩) (Nat.le_refl _) a).setCell (p := ⟨w4.heap.size, 5, none⟩) (Nat.le_refl _) b)
                go_wp2_with fail
                refine (C6.out _ (HIa.out.below (by exact HBS.out _ _))).mono ?_
                rintro e w5 ⟨v5, rfl, o5, b5⟩
                obtain ⟨A5, k5, rfl, hR5, _⟩ := o5.recs
                have HG5 : Hid (Poss w5 A5 ga) := Lib.hid ⟨hR5, HGQ.out⟩
                have hbs := HBS.out (.int .i64 (fp.lo - lo)) (.int .i64 (fp.sh - sh))
                have HB5 := Lib.hid (HBa.out.trans ((hbs.trans (b5.mono hbs.size)).mono HBa.out.size))
                have HJ5 := Lib.hid ((HJa.out.below hbs).below (b5.mono (Nat.le_refl _)))
                have HX5 := Lib.hid (((show SBox _ w.heap.size fp.ser from HXa.out.below hbs HXa.out.lt)).below b5 (by have := hbs.size; have := HXa.out.lt; omega))
                have hgl : ga.length ≤ 9223372036854775807 := HG5.out.len
                rw [List.length_map]
                clear o5 b5 hR5 hbs HBS HBF HBa HIa HJa HXa HF3 g0 g1 g2 g3 g4 g5 r4 r5 hwf C6 HGQ
                obtain ⟨x0, x1, x2, x3⟩ := HX5.out.cells
                have xl := HX5.out.lt
                go_wp2_with fail
                refine (CA.out _ HJ5.out).mono ?_
                rintro e w6 ⟨v6, rfl, o6, b6⟩
                obtain ⟨A6, k6, rfl, hR6, _⟩ := o6.recs
                have HB6 := Lib.hid (HB5.out.trans (b6.mono HB5.out.size))
                rw [List.length_map]
                clear o6 b6 hR6 x0 x1 x2 x3 xl
                go_wp2_with fail
                exact bodyPost_ret (results_ttt15 rfl _ _ _) rfl ⟨none, none, 0, 0, by rw [HEE.out, HA.out, HM.out] <;> rfl, by rw [HA.out]; exact TR.nil _ _, by rw [HM.out]; exact TR.nil _ _, HB6.out⟩
      · have e : PO.mv0E l m kind lo sh = 21 := by unfold PO.mv0E; rw [if_neg (by simp [h1]), if_neg (by simp [h2]), if_pos h3]
        have e1 : PO.mvE l m kind s lo sh = 21 := by unfold PO.mvE; rw [e]; rfl
        have e2 : PO.mvA l m kind s lo sh = [] := by unfold PO.mvA; rw [e1]; rfl
        have e3 : PO.mvB l m kind s lo sh = [] := by unfold PO.mvB; rw [e1]; rfl
        rw [e1, e2, e3]
        rw [h1] at C1
        rw [h2] at C2
        rw [show (decide (1 ≤ kind) && decide (kind ≤ 3)) = false by rw [Bool.and_eq_false_iff, decide_eq_false_iff_not, decide_eq_false_iff_not]; omega] at C3
        clear e e1 e2 e3 h1 h2 h3 HQA HQB
        go_enter Try.func32, Try.ntmps32
        go_wp2_with fail
        generalize w.alloc (.cells #[.string s.prod, .int .i64 s.kind, .int .i64 s.expiry, .int .i64 s.strike] 44) = w0 at *
        refine (C1.out _ HI0.out).mono ?_
        rintro e w1 ⟨rfl, b1⟩
        have HB1 := Lib.hid (HB0.out.trans (b1.mono HB0.out.size))
        have HI1 := Lib.hid (HI0.out.below b1)
        have HJ1 := Lib.hid (HJ0.out.below b1)
        have HX1 := Lib.hid (HX0.out.below b1 HX0.out.lt)
        clear b1 HB0 HI0 HJ0 HX0 C1
        go_wp2_with fail
        refine (C2.out _ HJ1.out).mono ?_
        rintro e w2 ⟨rfl, b2⟩
        have HB2 := Lib.hid (HB1.out.trans (b2.mono HB1.out.size))
        have HI2 := Lib.hid (HI1.out.below b2)
        have HJ2 := Lib.hid (HJ1.out.below b2)
        have HX2 := Lib.hid (HX1.out.below b2 HX1.out.lt)
        clear b2 HB1 HI1 HJ1 HX1 C2
        go_wp2_with fail
        refine (C3.out _).mono ?_
        rintro e w3 ⟨rfl, rfl⟩
        go_wp2_with fail
        exact bodyPost_ret (results_ttt15 rfl _ _ _) rfl ⟨none, none, 0, 0, rfl, TR.nil _ _, TR.nil _ _, HB2.out⟩
    · have e : PO.mv0E l m kind lo sh = PO.checkE m := by unfold PO.mv0E; rw [if_neg (by simp [h1]), if_pos h2]
      have e1 : PO.mvE l m kind s lo sh = PO.checkE m := by unfold PO.mvE; rw [e, if_pos h2]
      have e2 : PO.mvA l m kind s lo sh = [] := by unfold PO.mvA; rw [e1, if_neg h2]
      have e3 : PO.mvB l m kind s lo sh = [] := by unfold PO.mvB; rw [e1, if_neg h2]
      rw [e1, e2, e3]
      rw [h1] at C1
      generalize PO.checkE m = ce at *
      have hne : (ce != 0) = true := by simpa using h2
      clear e e1 e2 e3 h1 h2 HQA HQB
      go_enter Try.func32, Try.ntmps32
      go_wp2_with fail
      generalize w.alloc (.cells #[.string s.prod, .int .i64 s.kind, .int .i64 s.expiry, .int .i64 s.strike] 44) = w0 at *
      refine (C1.out _ HI0.out).mono ?_
      rintro e w1 ⟨rfl, b1⟩
      have HB1 := Lib.hid (HB0.out.trans (b1.mono HB0.out.size))
      have HI1 := Lib.hid (HI0.out.below b1)
      have HJ1 := Lib.hid (HJ0.out.below b1)
      have HX1 := Lib.hid (HX0.out.below b1 HX0.out.lt)
      clear b1 HB0 HI0 HJ0 HX0 C1
      go_wp2_with fail
      refine (C2.out _ HJ1.out).mono ?_
      rintro e w2 ⟨rfl, b2⟩
      have HB2 := Lib.hid (HB1.out.trans (b2.mono HB1.out.size))
      have HI2 := Lib.hid (HI1.out.below b2)
      have HJ2 := Lib.hid (HJ1.out.below b2)
      have HX2 := Lib.hid (HX1.out.below b2 HX1.out.lt)
      clear b2 HB1 HI1 HJ1 HX1 C2
      go_wp2_with fail
      exact bodyPost_ret (results_ttt15 rfl _ _ _) rfl ⟨none, none, 0, 0, rfl, TR.nil _ _, TR.nil _ _, HB2.out⟩
  · have e : PO.mv0E l m kind lo sh = PO.checkE l := by unfold PO.mv0E; rw [if_pos h1]
    have e1 : PO.mvE l m kind s lo sh = PO.checkE l := by unfold PO.mvE; rw [e, if_pos h1]
    have e2 : PO.mvA l m kind s lo sh = [] := by unfold PO.mvA; rw [e1, if_neg h1]
    have e3 : PO.mvB l m kind s lo sh = [] := by unfold PO.mvB; rw [e1, if_neg h1]
    rw [e1, e2, e3]
    generalize PO.checkE l = ce at *
    have hne : (ce != 0) = true := by simpa using h1
    clear e e1 e2 e3 h1 HQA HQB
    go_enter Try.func32, Try.ntmps32
    go_wp2_with fail
    generalize w.alloc (.cells #[.string s.prod, .int .i64 s.kind, .int .i64 s.expiry, .int .i64 s.strike] 44) = w0 at *
    refine (C1.out _ HI0.out).mono ?_
    rintro e w1 ⟨rfl, b1⟩
    have HB1 := Lib.hid (HB0.out.trans (b1.mono HB0.out.size))
    have HI1 := Lib.hid (HI0.out.below b1)
    have HJ1 := Lib.hid (HJ0.out.below b1)
    have HX1 := Lib.hid (HX0.out.below b1 HX0.out.lt)
    clear b1 HB0 HI0 HJ0 HX0 C1
    go_wp2_with fail
    exact bodyPost_ret (results_ttt15 rfl _ _ _) rfl ⟨none, none, 0, 0, rfl, TR.nil _ _, TR.nil _ _, HB1.out⟩
end Go.Proofs.Ytdhkflmodcgooaa
