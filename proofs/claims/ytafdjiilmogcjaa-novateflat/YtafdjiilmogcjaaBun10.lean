/- Put together: NovH, WNovateFlat, SizedRec, OpenProd. -/
import Derived.Test.YtafdjiilmogcjaaBun6
import Derived.Test.YtafdjiilmogcjaaBun9
import Derived.Test.YtafdjiilmogcjaaBun7
import Derived.Deep.RegionHeld3
import Derived.Test.YtafdjiilmogcjaaBun1
import Derived.SizedLaws
import Derived.ProofKit
import Derived.Test.YtafdjiilmogcjaaBun3
import Derived.Test.YtafdjiilmogcjaaBun4
import Derived.OpenShut
import Derived.ShutString
import Derived.ChangeOld
/- Layer 13: the page's example. -/
namespace Go.Proofs.Ytafdjiilmogcjaa
open Go.RowKit Go.Recs
set_option linter.unusedVariables false
set_option linter.unusedSimpArgs false
abbrev oilS : ByteArray := ⟨#[111, 105, 108]⟩
abbrev sA : ByteArray := ⟨#[97]⟩
abbrev sB : ByteArray := ⟨#[98]⟩
abbrev sX : ByteArray := ⟨#[120]⟩
abbrev oilPr : QM.Prod := ⟨⟨#[111, 105, 108]⟩, 0, 10, 5, 0, 100, false⟩
abbrev oilSer : EM.Ser := ⟨⟨#[111, 105, 108]⟩, 1, 9576, 0⟩
abbrev trd7 : TM.Trd := ⟨7, 0, 0, ⟨⟨#[111, 105, 108]⟩, 1, 9576, 0⟩, 3, 50, ⟨#[97]⟩, ⟨#[120]⟩, ⟨#[98]⟩, ⟨#[120]⟩⟩
abbrev bgt : NM.Leg := ⟨⟨#[97]⟩, ⟨#[120]⟩, ⟨⟨#[111, 105, 108]⟩, 1, 9576, 0⟩, 3, 50, 7⟩
abbrev sld : NM.Leg := ⟨⟨#[98]⟩, ⟨#[120]⟩, ⟨⟨#[111, 105, 108]⟩, 1, 9576, 0⟩, -3, 50, 7⟩
theorem ab_ne : (⟨#[97]⟩ : ByteArray) ≠ ⟨#[98]⟩ := by
  intro h
  injection h with h
  exact absurd h (by decide)
theorem oil_q13 : prodQ oilPr := ⟨by decide, ⟨by decide, by decide⟩, ⟨by decide, by decide⟩, ⟨by decide, by decide⟩, ⟨by decide, by decide⟩, ⟨by decide, by decide⟩⟩
theorem trd7_q : trdQ trd7 := ⟨⟨by decide, by decide⟩, ⟨by decide, by decide⟩, ⟨by decide, by decide⟩, ⟨by decide, ⟨by decide, by decide⟩, ⟨by decide, by decide⟩, ⟨by decide, by decide⟩⟩, ⟨by decide, by decide⟩, ⟨by decide, by decide⟩, by decide, by decide, by decide, by decide⟩
theorem all7 : NM.allL [trd7] = [bgt, sld] := rfl
theorem chk7 : NM.checkE [bgt, sld] = 0 := by decide
theorem mine_aa : NM.mine ⟨#[97]⟩ ⟨#[120]⟩ oilSer bgt = true := by unfold NM.mine; rw [NM.aeq_iff.2 ⟨rfl, rfl⟩, NM.seqB_iff.2 rfl]; rfl
theorem mine_ab : NM.mine ⟨#[97]⟩ ⟨#[120]⟩ oilSer sld = false := by
  unfold NM.mine
  have : NM.aeq sld.am sld.an ⟨#[97]⟩ ⟨#[120]⟩ = false := by
    cases e : NM.aeq sld.am sld.an ⟨#[97]⟩ ⟨#[120]⟩
    · rfl
    · exact absurd (NM.aeq_iff.1 e).1 ab_ne.symm
  rw [this]; rfl
theorem mine_ba : NM.mine ⟨#[98]⟩ ⟨#[120]⟩ oilSer bgt = false := by
  unfold NM.mine
  have : NM.aeq bgt.am bgt.an ⟨#[98]⟩ ⟨#[120]⟩ = false := by
    cases e : NM.aeq bgt.am bgt.an ⟨#[98]⟩ ⟨#[120]⟩
    · rfl
    · exact absurd (NM.aeq_iff.1 e).1 ab_ne
  rw [this]; rfl
theorem mine_bb : NM.mine ⟨#[98]⟩ ⟨#[120]⟩ oilSer sld = true := by unfold NM.mine; rw [NM.aeq_iff.2 ⟨rfl, rfl⟩, NM.seqB_iff.2 rfl]; rfl
theorem filt_a : [bgt, sld].filter (NM.mine ⟨#[97]⟩ ⟨#[120]⟩ oilSer) = [bgt] := by simp only [List.filter, mine_aa, mine_ab]
theorem filt_b : [bgt, sld].filter (NM.mine ⟨#[98]⟩ ⟨#[120]⟩ oilSer) = [sld] := by simp only [List.filter, mine_ba, mine_bb]
theorem val_a : QM.valueE oilPr 50 3 = 0 ∧ QM.valueN oilPr 50 3 = 1500 ∧ QM.valueE oilPr 50 (-3) = 0 ∧ QM.valueN oilPr 50 (-3) = -1500 := by decide
theorem cost_a : NM.costN [bgt, sld] ⟨#[97]⟩ ⟨#[120]⟩ oilPr oilSer = 1500 ∧ NM.costE [bgt, sld] ⟨#[97]⟩ ⟨#[120]⟩ oilPr oilSer = 0 := by
  have h1 : NM.firstE oilPr ([bgt, sld].filter (NM.mine ⟨#[97]⟩ ⟨#[120]⟩ oilSer)) = 0 := by rw [filt_a]; unfold NM.firstE; rw [if_pos val_a.1]; rfl
  obtain ⟨e1, e2⟩ := cost_ok (am := ⟨#[97]⟩) (an := ⟨#[120]⟩) (p := oilPr) (s := oilSer) chk7 h1
  rw [e1, e2, filt_a]
  have : NM.worth oilPr [bgt] = [1500] := by unfold NM.worth; simp only [List.map_cons, List.map_nil, val_a.2.1]
  rw [this]
  decide
theorem cost_b : NM.costN [bgt, sld] ⟨#[98]⟩ ⟨#[120]⟩ oilPr oilSer = -1500 ∧ NM.costE [bgt, sld] ⟨#[98]⟩ ⟨#[120]⟩ oilPr oilSer = 0 := by
  have h1 : NM.firstE oilPr ([bgt, sld].filter (NM.mine ⟨#[98]⟩ ⟨#[120]⟩ oilSer)) = 0 := by rw [filt_b]; unfold NM.firstE; rw [if_pos val_a.2.2.1]; rfl
  obtain ⟨e1, e2⟩ := cost_ok (am := ⟨#[98]⟩) (an := ⟨#[120]⟩) (p := oilPr) (s := oilSer) chk7 h1
  rw [e1, e2, filt_b]
  have : NM.worth oilPr [sld] = [-1500] := by unfold NM.worth; simp only [List.map_cons, List.map_nil, val_a.2.2.2]
  rw [this]
  decide
theorem flat7 : NM.flatB [bgt, sld] = true := by
  have hf : ∀ x ∈ [bgt, sld], [bgt, sld].filter (NM.ofS x.ser) = [bgt, sld] := by
    intro x hx
    have hs : x.ser = oilSer := by
      simp only [List.mem_cons, List.not_mem_nil, or_false] at hx
      rcases hx with rfl | rfl <;> rfl
    rw [hs]
    have h1 : NM.ofS oilSer bgt = true := NM.seqB_iff.2 rfl
    have h2 : NM.ofS oilSer sld = true := NM.seqB_iff.2 rfl
    simp only [List.filter, h1, h2]
  refine NM.flat_yes chk7 fun j hj => ?_
  rw [NM.lAt_get hj, NM.house_ok chk7, hf _ (List.getElem_mem hj)]
  rfl
theorem lit_trd (W : World) (t : TM.Trd) (hq : trdQ t) : Trds (W.alloc (.cells (trdC t) 45)) (some ⟨W.heap.size, 0, none⟩) [t] := by
  obtain ⟨A', cap, e, hr, _⟩ := OwnR.recs (OwnR.lit W W.heap.size 45 13 [trdV t] (by simp [trdV]) (Nat.le_refl _) (by simp [maxLen]))
  injection e with e1
  subst e1
  exact ⟨hr, fun a ha => by rw [List.mem_singleton.1 ha]; exact hq⟩
theorem bs_q : ∀ x ∈ [bgt, sld], legQ x := by
  intro x hx
  simp only [List.mem_cons, List.not_mem_nil, or_false] at hx
  rcases hx with rfl | rfl
  · exact ⟨by decide, by decide, trd7_q.2.2.2.1, ⟨by decide, by decide⟩, ⟨by decide, by decide⟩, ⟨by decide, by decide⟩⟩
  · exact ⟨by decide, by decide, trd7_q.2.2.2.1, ⟨by decide, by decide⟩, ⟨by decide, by decide⟩, ⟨by decide, by decide⟩⟩

set_option maxHeartbeats 4000000 in
set_option maxRecDepth 100000 in
theorem goes13_any (w : World) : Calls Try.prog 16 #[] w fun e w' => e = .returned (.bool true) ∧ Below w.heap.size w w' := by
  have HB0 := Lib.hid (fun a b c => below_al (below_al (below_al (Below.refl w.heap.size w) a) b) c)
  have C1 := nall_any _ [trd7] 1 1 rfl _ (lit_trd ((w.alloc (.cells #[.string ⟨#[111, 105, 108]⟩, .int .i64 0, .int .i64 10, .int .i64 5, .int .i64 0, .int .i64 100, .bool false] 65)).alloc (.cells (trdC trd7) 45)) trd7 trd7_q) (by decide)
  have HP := Lib.hid (PBox.new w oilPr)
  have HT : Hid (CB ((w.alloc (.cells #[.string ⟨#[111, 105, 108]⟩, .int .i64 0, .int .i64 10, .int .i64 5, .int .i64 0, .int .i64 100, .bool false] 65)).alloc (.cells (trdC trd7) 45)) (w.heap.size + 1) 45 (trdC trd7)) := Lib.hid (CB.new1 _ _ _ _)
  rw [show ((w.alloc (.cells #[.string ⟨#[111, 105, 108]⟩, .int .i64 0, .int .i64 10, .int .i64 5, .int .i64 0, .int .i64 100, .bool false] 65)).alloc (.cells (trdC trd7) 45)).heap.size = w.heap.size + 1 + 1 by simp, all7] at C1
  have HP3 := Lib.hid ((HP.out.alloc (.cells (trdC trd7) 45)).alloc (.cells (trdC trd7) 45))
  have HT3 := Lib.hid (HT.out.alloc (.cells (trdC trd7) 45))
  have HB3 := Lib.hid (HB0.out (.cells #[.string ⟨#[111, 105, 108]⟩, .int .i64 0, .int .i64 10, .int .i64 5, .int .i64 0, .int .i64 100, .bool false] 65) (.cells (trdC trd7) 45) (.cells (trdC trd7) 45))
  have HC1 := Lib.hid C1
  have C2 := Lib.hid (fun A c ww h => ncost_any A [bgt, sld] 2 c rfl ⟨#[97]⟩ ⟨#[120]⟩ oilPr oilSer ww h oil_q13)
  have C3 := Lib.hid (fun A c ww h => ncost_any A [bgt, sld] 2 c rfl ⟨#[98]⟩ ⟨#[120]⟩ oilPr oilSer ww h oil_q13)
  have C4 := Lib.hid (fun A c ww h => nflat_any A [bgt, sld] 2 c rfl ww h)
  rw [cost_a.1, cost_a.2] at C2
  rw [cost_b.1, cost_b.2] at C3
  rw [flat7] at C4
  clear C1 HP HT HB0
  go_enter Try.func16, Try.ntmps16
  go_wp2_with fail
  refine HC1.out.mono ?_
  rintro e w1 ⟨v, rfl, o1, b1⟩
  obtain ⟨A1, c1, rfl, hr1, hc1⟩ := o1.recs
  have HL1 : Hid (Legs w1 A1 [bgt, sld]) := Lib.hid ⟨hr1, bs_q⟩
  have hsz : ((w.alloc (.cells #[.string ⟨#[111, 105, 108]⟩, .int .i64 0, .int .i64 10, .int .i64 5, .int .i64 0, .int .i64 100, .bool false] 65)).alloc (.cells (trdC trd7) 45)).heap.size = w.heap.size + 1 + 1 := by simp
  have HB1 := Lib.hid (HB3.out.trans (b1.mono HB3.out.size))
  have HP1 := Lib.hid (HP3.out.below b1 HP3.out.lt)
  have HT1 := Lib.hid (HT3.out.below b1 HT3.out.lt)
  obtain ⟨p0, p1, p2, p3, p4, p5, p6⟩ := HP1.out.cells
  have t3 : w1.cell? ⟨w.heap.size + 1, 3, none⟩ = some (.string ⟨#[111, 105, 108]⟩) := HT1.out.cell 3
  have t4 : w1.cell? ⟨w.heap.size + 1, 4, none⟩ = some (.int .i64 1) := HT1.out.cell 4
  have t5 : w1.cell? ⟨w.heap.size + 1, 5, none⟩ = some (.int .i64 9576) := HT1.out.cell 5
  have t6 : w1.cell? ⟨w.heap.size + 1, 6, none⟩ = some (.int .i64 0) := HT1.out.cell 6
  have t9 : w1.cell? ⟨w.heap.size + 1, 9, none⟩ = some (.string ⟨#[97]⟩) := HT1.out.cell 9
  have t10 : w1.cell? ⟨w.heap.size + 1, 10, none⟩ = some (.string ⟨#[120]⟩) := HT1.out.cell 10
  rw [show ([bgt, sld].map legV).length = 2 from rfl] at *
  clear hr1 hc1 o1 b1 HC1 HP3 HT3 HB3 hsz
  go_wp2_with fail
  refine (C2.out _ _ _ HL1.out).mono ?_
  clear p0 p1 p2 p3 p4 p5 p6 t3 t4 t5 t6 t9 t10
  rintro e w2 ⟨rfl, b2⟩
  have HB2 := Lib.hid (HB1.out.trans (b2.mono HB1.out.size))
  have HL2 := Lib.hid (HL1.out.below b2)
  have HP2 := Lib.hid (HP1.out.below b2 HP1.out.lt)
  have HT2 := Lib.hid (HT1.out.below b2 HT1.out.lt)
  obtain ⟨p0, p1, p2, p3, p4, p5, p6⟩ := HP2.out.cells
  have t3 : w2.cell? ⟨w.heap.size + 1, 3, none⟩ = some (.string ⟨#[111, 105, 108]⟩) := HT2.out.cell 3
  have t4 : w2.cell? ⟨w.heap.size + 1, 4, none⟩ = some (.int .i64 1) := HT2.out.cell 4
  have t5 : w2.cell? ⟨w.heap.size + 1, 5, none⟩ = some (.int .i64 9576) := HT2.out.cell 5
  have t6 : w2.cell? ⟨w.heap.size + 1, 6, none⟩ = some (.int .i64 0) := HT2.out.cell 6
  have t11 : w2.cell? ⟨w.heap.size + 1, 11, none⟩ = some (.string ⟨#[98]⟩) := HT2.out.cell 11
  have t12 : w2.cell? ⟨w.heap.size + 1, 12, none⟩ = some (.string ⟨#[120]⟩) := HT2.out.cell 12
  clear b2 HL1 HP1 HT1 HB1 C2
  go_wp2_with fail
  refine (C3.out _ _ _ HL2.out).mono ?_
  clear p0 p1 p2 p3 p4 p5 p6 t3 t4 t5 t6 t11 t12
  rintro e w3 ⟨rfl, b3⟩
  have HB3 := Lib.hid (HB2.out.trans (b3.mono HB2.out.size))
  have HL3 := Lib.hid (HL2.out.below b3)
  obtain ⟨b, off, x, rfl, hb, HV, q, d0, d1, d2, d3, d4, d5, d6, d7, d8⟩ := legs_get HL3.out (k := 0) (by decide)
  obtain ⟨b', off', x', he, hb', HV', q', g0, g1, g2, g3, g4, g5, g6, g7, g8⟩ := legs_get HL3.out (k := 1) (by decide)
  injection he with he
  injection he with e1 e2
  subst e1 e2
  have y0 : x = bgt := HV.out.symm
  have y1 : x' = sld := HV'.out.symm
  subst y0 y1
  have k6 : w3.cell? ⟨b, off + 6, none⟩ = some (.int .i64 3) := by simpa using d6
  have k15 : w3.cell? ⟨b, off + 9 + 6, none⟩ = some (.int .i64 (-3)) := by simpa using g6
  clear b3 HL2 HP2 HT2 HB2 C3 d0 d1 d2 d3 d4 d5 d6 d7 d8 g0 g1 g2 g3 g4 g5 g6 g7 g8 q q' HV HV' hb'
  go_wp2_with fail
  refine (C4.out _ _ _ HL3.out).mono ?_
  rintro e w4 ⟨rfl, b4⟩
  have HB4 := Lib.hid (HB3.out.trans (b4.mono HB3.out.size))
  clear b4
  go_wp2_with fail
  go_ret
  exact ⟨rfl, HB4.out⟩
end Go.Proofs.Ytafdjiilmogcjaa

namespace Go.Proofs.Ytafdjiilmogcjaa.novateFlat
open Go.RowKit Go.Recs
set_option linter.unusedVariables false
set_option maxHeartbeats 16000000 in
set_option maxRecDepth 100000 in
theorem walk (A : Option Addr) (cap : Nat) (l : List TM.Trd) (w : World) (hI : Trds w A l ∧ l.length ≤ cap) :
    Calls Try.prog 7 #[.slice A l.length cap] w fun e w' => e = .returned (.bool true) ∧ Below w.heap.size w w' := by
  have CG := Lib.hid (fun ww => goes13_any ww)
  have C1 := Lib.hid (fit13_any A l cap w hI.1)
  clear hI
  go_enter Try.func7, Try.ntmps7
  go_wp2_with fail
  refine C1.out.mono ?_
  rintro e w1 ⟨v1, m, rfl, o1, q1, f1, hm, b1⟩
  obtain ⟨A1, c1, rfl, hR1, hc1⟩ := o1.recs
  have HT1 : Hid (Trds w1 A1 m) := Lib.hid ⟨hR1, q1⟩
  have HB1 := Lib.hid b1
  have C2 := Lib.hid (fun A n c e ww h => nall_any A m n c e ww h (by omega))
  have HSM := Lib.hid (NM.all_small f1)
  have HAF := Lib.hid (NM.all_flat f1 hm)
  have HAL := Lib.hid (NM.allL_len m)
  have HAQ := Lib.hid (all_q q1)
  have HML : Hid (m.length ≤ 100) := Lib.hid hm
  rw [List.length_map] at *
  clear o1 q1 f1 hR1 hc1 b1 C1
  go_wp2_with fail
  refine (C2.out _ _ _ (by simp) _ HT1.out).mono ?_
  rintro e w2 ⟨v2, rfl, o2, b2⟩
  generalize NM.allL m = al at *
  obtain ⟨A2, c2, rfl, hR2, hc2⟩ := o2.recs
  have HA2 : Hid (Legs w2 A2 al) := Lib.hid ⟨hR2, HAQ.out⟩
  have HB2 := Lib.hid (HB1.out.trans (b2.mono HB1.out.size))
  have hal : (al.length : Int) = 2 * (m.length : Int) := by have := HAL.out; omega
  have hall : al.length ≤ 200 := by have := HAL.out; have := HML.out; omega
  have C3 := Lib.hid (fun A n c e ww h => nflat_any A al n c e ww h)
  rw [HAF.out] at C3
  have C4 := Lib.hid (fun (x : NM.Leg) ww h => nundo_any x ww h)
  have HBS := Lib.hid (NM.both_len al)
  have HBF := Lib.hid (NM.both_flat HSM.out (by omega))
  have HBU : Hid (∀ x ∈ NM.both al, legQ x) := Lib.hid (by
    intro x hx
    rcases List.mem_append.1 hx with hx | hx
    · exact HAQ.out x hx
    · obtain ⟨y, hy, rfl⟩ := List.mem_map.1 hx
      exact undo_legQ (HAQ.out y hy))
  have C5 := Lib.hid (fun A n c e ww h => nflat_any A (NM.both al) n c e ww h)
  rw [HBF.out] at C5
  have C6 : Hid (∀ (am an : ByteArray) (s : EM.Ser) (A : Option Addr) n c (e : n = (NM.both al).length) ww (h : Legs ww A (NM.both al)), Calls Try.prog 24 #[.slice A n c, kA am an, serA s] ww fun e w' => e = .returned (.tuple #[.int .i64 0, .int .i64 0]) ∧ Below ww.heap.size ww w') := Lib.hid (fun am an s A n c e ww h => by
    have := nnet_any A (NM.both al) n c e am an s ww h
    rw [NM.both_net HSM.out (by omega), NM.both_check HSM.out (by omega)] at this
    exact this)
  have C7 : Hid (∀ x ∈ al, ∀ ww, Calls Try.prog 20 #[legA (NM.undo x)] ww fun e w' => e = .returned (legA x) ∧ Below ww.heap.size ww w') := Lib.hid (fun x hx ww => by
    have := nundo_any (NM.undo x) ww (undo_legQ (HAQ.out x hx))
    rw [NM.undo_undo (HSM.out x hx)] at this
    exact this)
  have hne : ((al.length : Int) != 2 * (m.length : Int)) = false := by rw [hal]; simp
  have el : (al.map legV).length = al.length := by simp
  rw [el]
  have HLE := Lib.hid hall
  clear o2 b2 hR2 hc2 HT1 HB1 C2 HSM HAF HAL HAQ HML HBF el
  go_wp2_with fail
  refine (C3.out _ _ _ rfl _ HA2.out).mono ?_
  rintro e w3 ⟨rfl, b3⟩
  have HA3 := Lib.hid (HA2.out.below b3)
  have HB3 := Lib.hid (HB2.out.trans (b3.mono HB2.out.size))
  have HOE : Hid (OwnR (w3.alloc (.cells #[] 47)) w3.heap.size 47 9 (.slice (some ⟨w3.heap.size, 0, none⟩) 0 0) []) := Lib.hid (OwnR.empty w3 w3.heap.size 47 9 (Nat.le_refl _))
  have HRL := Lib.hid (HA3.out.below (below_al (Below.refl w3.heap.size w3) (.cells #[] 47))).1
  have HES : Hid (w3.heap.size ≤ (w3.alloc (.cells #[] 47)).heap.size) := Lib.hid (by simp)
  clear b3 HA2 HB2 C3 hne hal
  go_wp2_with (at_builtin; refine wpList_catR _ w3.heap.size [] (al.map legV) _ _ _ 47 9 96 _ Try.underlying51 info_leg rfl (by decide) rfl rfl _ _ _ _ rfl rfl ?c0 HOE.out HRL.out (legV_one al) ?c3 ?c4 HES.out ?_)
  case c0 => simp
  case c3 => have := HLE.out; simp; omega
  case c4 => have := HLE.out; simp [maxLen]; omega
  rintro v4 w4 hO hb hg
  have HO4 : Hid (OwnR w4 w3.heap.size 47 9 v4 ((al ++ (al.take 0).map NM.undo).map legV)) := Lib.hid (by simpa using hO)
  have HB4 : Hid (Below w3.heap.size w3 w4) := Lib.hid ((below_al (Below.refl w3.heap.size w3) (.cells #[] 47)).trans hb)
  clear hO hb hg HOE HRL HES
  go_wp2_with fail
  go_loopw [4, 5, 29] (fun v _ i wr => ∃ k : Nat, k ≤ al.length ∧ i = .int .i64 (k : Int) ∧ Hid (OwnR wr w3.heap.size 47 9 v ((al ++ (al.take k).map NM.undo).map legV)) ∧ Hid (Below w3.heap.size w3 wr)) (fun _ _ i _ => al.length - (intOf i).toNat)
  case atStart => exact ⟨0, by omega, rfl, HO4, HB4⟩
  case round =>
    obtain ⟨k, hk, rfl, HO, HB⟩ := hrel
    by_cases hlt : k < al.length
    · obtain ⟨b, off, x, rfl, hb, HV, q, d0, d1, d2, d3, d4, d5, d6, d7, d8⟩ := legs_get (HA3.out.below HB.out) hlt
      have C9 := Lib.hid (fun ww => C4.out x ww q)
      have HN : Hid ((al ++ (al.take (k + 1)).map NM.undo) = (al ++ (al.take k).map NM.undo) ++ [NM.undo x]) := Lib.hid (by rw [NM.take_succ hlt, ← NM.lAt_get hlt, HV.out, List.map_append, List.append_assoc]; rfl)
      have HZ : Hid (((al ++ (al.take k).map NM.undo).map legV).length ≤ 400) := Lib.hid (by have := HLE.out; simp; omega)
      generalize NM.undo x = ux at *
      clear q HV
      go_wp2_with fail
      refine (C9.out _).mono ?_
      rintro e w5 ⟨rfl, b5⟩
      have HB5 := Lib.hid (HB.out.trans (b5.mono HB.out.size))
      have HO5 := Lib.hid (HO.out.below b5)
      clear b5 HO
      go_wp2_with (at_builtin; refine wpList_pushR _ [.string ux.am, .string ux.an, .string ux.ser.prod, .int .i64 ux.ser.kind, .int .i64 ux.ser.expiry, .int .i64 ux.ser.strike, .int .i64 ux.qty, .int .i64 ux.price, .int .i64 ux.trade] (leg_one ux) w3.heap.size ((al ++ (al.take k).map NM.undo).map legV) _ _ 51 47 9 96 _ Try.underlying51 info_leg rfl (by decide) rfl rfl rfl _ rfl rfl HO5.out ?c1 ?c2 HB5.out.size ?_)
      case c1 => have := HZ.out; omega
      case c2 => have := HZ.out; simp only [maxLen]; omega
      intro v6 w6 o6 b6 _ _
      have HO6 : Hid (OwnR w6 w3.heap.size 47 9 v6 ((al ++ (al.take (k + 1)).map NM.undo).map legV)) := Lib.hid (by rw [HN.out]; simpa [legV] using o6)
      have HB6 := Lib.hid (HB5.out.trans b6)
      clear o6 b6 HO5 HZ HN
      go_wp2_with fail
      go_roundw
      case rel => exact ⟨k + 1, by omega, by go_num, HO6, HB6⟩
      case measure => simp [intOf]; omega
    · obtain rfl : k = al.length := by omega
      rw [List.take_length] at HO
      obtain ⟨A6, c6, rfl, hR6, hc6⟩ := HO.out.recs
      have HU6 : Hid (Legs wr A6 (NM.both al)) := Lib.hid ⟨hR6, HBU.out⟩
      have HB6 := HB
      have el : ((al ++ al.map NM.undo).map legV).length = (NM.both al).length := by rw [List.length_map]; rfl
      rw [el]
      clear HO hR6 hc6 HB el HO4 HB4
      generalize wr = w6 at *
      go_wp2_with fail
      go_loopw [6, 7, 8, 43] (fun _ _ _ i ws => ∃ k : Nat, k ≤ al.length ∧ i = .int .i64 (k : Int) ∧ Hid (Below w6.heap.size w6 ws)) (fun _ _ _ i _ => al.length - (intOf i).toNat)
      case atStart => exact ⟨0, by omega, rfl, Lib.hid (Below.refl _ _)⟩
      case round =>
        obtain ⟨k, hk, rfl, HB⟩ := hrel
        by_cases hlt : k < al.length
        · obtain ⟨b, off, x, rfl, hb, HV, q, d0, d1, d2, d3, d4, d5, d6, d7, d8⟩ := legs_get (HA3.out.below (HB6.out.trans (HB.out.mono HB6.out.size))) hlt
          have hxm : x ∈ al := by rw [← HV.out, NM.lAt_get hlt]; exact List.getElem_mem hlt
          have C8 := Lib.hid (fun ww => C4.out x ww q)
          have C9 := Lib.hid (fun ww => C7.out x hxm ww)
          have E1 : ∀ ww, (Op.equalIn 10000 47 (legA x) (legA x)).run Try.prog ww = .ok true ww := fun ww => by rw [leg_in, NM.leq_iff.2 rfl]
          generalize NM.undo x = ux at *
          have C10 := Lib.hid (fun A n c e ww h => C6.out x.am x.an x.ser A n c e ww h)
          have HU := Lib.hid (HU6.out.below HB.out)
          have HSF : Hid (∀ ww, Below wr.heap.size wr ww → ww.cell? ⟨b, off + k * 9, none⟩ = some (.string x.am) ∧ ww.cell? ⟨b, off + k * 9 + 1, none⟩ = some (.string x.an) ∧ ww.cell? ⟨b, off + k * 9 + 2, none⟩ = some (.string x.ser.prod) ∧ ww.cell? ⟨b, off + k * 9 + 3, none⟩ = some (.int .i64 x.ser.kind) ∧ ww.cell? ⟨b, off + k * 9 + 4, none⟩ = some (.int .i64 x.ser.expiry) ∧ ww.cell? ⟨b, off + k * 9 + 5, none⟩ = some (.int .i64 x.ser.strike) ∧ ww.cell? ⟨b, off + k * 9 + 6, none⟩ = some (.int .i64 x.qty) ∧ ww.cell? ⟨b, off + k * 9 + 7, none⟩ = some (.int .i64 x.price) ∧ ww.cell? ⟨b, off + k * 9 + 8, none⟩ = some (.int .i64 x.trade)) := Lib.hid (fun ww h => ⟨(h.cell (p := ⟨b, off + k * 9, none⟩) hb).trans d0, (h.cell (p := ⟨b, off + k * 9 + 1, none⟩) hb).trans d1, (h.cell (p := ⟨b, off + k * 9 + 2, none⟩) hb).trans d2, (h.cell (p := ⟨b, off + k * 9 + 3, none⟩) hb).trans d3, (h.cell (p := ⟨b, off + k * 9 + 4, none⟩) hb).trans d4, (h.cell (p := ⟨b, off + k * 9 + 5, none⟩) hb).trans d5, (h.cell (p := ⟨b, off + k * 9 + 6, none⟩) hb).trans d6, (h.cell (p := ⟨b, off + k * 9 + 7, none⟩) hb).trans d7, (h.cell (p := ⟨b, off + k * 9 + 8, none⟩) hb).trans d8⟩)
          have HBw : Hid (Below wr.heap.size wr wr.drew) := Lib.hid (Below.refl _ _).drew
          clear q HV hxm
          go_wp2_with fail
          go_region_held3 (fun ww => ww.cell? ⟨b, off + k * 9, none⟩ = some (.string x.am) ∧ ww.cell? ⟨b, off + k * 9 + 1, none⟩ = some (.string x.an) ∧ ww.cell? ⟨b, off + k * 9 + 2, none⟩ = some (.string x.ser.prod) ∧ ww.cell? ⟨b, off + k * 9 + 3, none⟩ = some (.int .i64 x.ser.kind) ∧ ww.cell? ⟨b, off + k * 9 + 4, none⟩ = some (.int .i64 x.ser.expiry) ∧ ww.cell? ⟨b, off + k * 9 + 5, none⟩ = some (.int .i64 x.ser.strike) ∧ ww.cell? ⟨b, off + k * 9 + 6, none⟩ = some (.int .i64 x.qty) ∧ ww.cell? ⟨b, off + k * 9 + 7, none⟩ = some (.int .i64 x.price) ∧ ww.cell? ⟨b, off + k * 9 + 8, none⟩ = some (.int .i64 x.trade))
            (with_reducible exact HSF.out _ HBw.out)
            (first
              | (go_at_call 24; refine (C10.out _ _ _ rfl _ (HU.out.below HBw.out)).mono ?_; rintro e w7 ⟨rfl, b7⟩; replace HBw := Lib.hid (HBw.out.trans (b7.mono HBw.out.size)); clear b7))
          all_goals (
            have HBx := Lib.hid HBw.out
            replace HBw := Lib.hid HBw.out.drew
            have gl := leg_guard
            go_wp2_with fail
            go_region_held3 (fun ww => ww.cell? ⟨b, off + k * 9, none⟩ = some (.string x.am) ∧ ww.cell? ⟨b, off + k * 9 + 1, none⟩ = some (.string x.an) ∧ ww.cell? ⟨b, off + k * 9 + 2, none⟩ = some (.string x.ser.prod) ∧ ww.cell? ⟨b, off + k * 9 + 3, none⟩ = some (.int .i64 x.ser.kind) ∧ ww.cell? ⟨b, off + k * 9 + 4, none⟩ = some (.int .i64 x.ser.expiry) ∧ ww.cell? ⟨b, off + k * 9 + 5, none⟩ = some (.int .i64 x.ser.strike) ∧ ww.cell? ⟨b, off + k * 9 + 6, none⟩ = some (.int .i64 x.qty) ∧ ww.cell? ⟨b, off + k * 9 + 7, none⟩ = some (.int .i64 x.price) ∧ ww.cell? ⟨b, off + k * 9 + 8, none⟩ = some (.int .i64 x.trade))
              (with_reducible exact HSF.out _ HBw.out)
              (first
                | (go_at_call 20; refine (C8.out _).mono ?_; rintro e w8 ⟨rfl, b8⟩; replace HBw := Lib.hid (HBw.out.trans (b8.mono HBw.out.size)); clear b8)
                | (go_at_call 20; refine (C9.out _).mono ?_; rintro e w9 ⟨rfl, b9⟩; replace HBw := Lib.hid (HBw.out.trans (b9.mono HBw.out.size)); clear b9))
            all_goals (
              have HB2 := Lib.hid (HB.out.trans (HBw.out.mono HB.out.size))
              clear HB HBw HBx HSF d0 d1 d2 d3 d4 d5 d6 d7 d8 gl
              go_wp2_with fail
              go_roundw
              case rel => exact ⟨k + 1, by omega, by go_num, HB2⟩
              case measure => simp [intOf]; omega))
        · obtain rfl : k = al.length := by omega
          go_wp2_with fail
          refine (C5.out _ _ _ rfl _ (HU6.out.below HB.out)).mono ?_
          rintro e w7 ⟨rfl, b7⟩
          have HB7 := Lib.hid (HB.out.trans (b7.mono HB.out.size))
          clear b7
          go_wp2_with fail
          refine (CG.out _).mono ?_
          rintro e w8 ⟨rfl, b8⟩
          have HB8 := Lib.hid (HB7.out.trans (b8.mono HB7.out.size))
          have HBZ := Lib.hid (HB3.out.trans ((HB6.out.trans (HB8.out.mono HB6.out.size)).mono HB3.out.size))
          clear b8
          go_wp2_with fail
          go_ret
          exact ⟨rfl, HBZ.out⟩
end Go.Proofs.Ytafdjiilmogcjaa.novateFlat

/- What the reach says of a text that opens a record, over any program. -/
namespace Go.Recs
open Go.ChangeShapes Go.WideShapes Go.RowKit Go.Deep
set_option linter.unusedVariables false
theorem first_sized {H : Type} {enc : TypeId × Value → H} {P : Program} {W : World} {base : Nat} {spare : Nat → Bool} {held : Bool} {T : TypeId} {cs : Array Value} {d : DataW H} {p : List MemPlace} {fs : Array Field} {f : Field} {s : ByteArray}
    {ts : List TypeId} {ds : List (DataW H)} {j : Nat}
    (h : (DataW.weightsEach P ts ds).all (· ≤ reachBytes) = true) (ht : ts[j]? = some T) (hd : ds[j]? = some d)
    (hT : DataW.Trod enc P W base spare held T (.agg cs) d p) (hu : P.underlying T = some (.struct fs)) (hf : fs[0]? = some f) (ho : f.offset = 0) (hs : P.underlying f.type = some .string) (hc : P.cellsOf f.type = 1) (hcs : cs[0]? = some (.string s)) :
    s.size ≤ 140737488351232 := by
  obtain ⟨fuel, hx⟩ := hT
  obtain ⟨xs, n, _, hxd, _, hxl, hfl⟩ := DataW.trod_struct hu hx
  have h0 := hfl 0 f hf
  have hpos : 0 < xs.length := by
    rw [hxl]
    rcases Nat.eq_zero_or_pos fs.size with e | e
    · rw [Array.getElem?_eq_none (by omega)] at hf; cases hf
    · exact e
  rw [List.getElem?_eq_getElem hpos] at h0
  obtain ⟨t, ht0, hx0, _⟩ := DataW.trod_string hs h0
  rw [ho, hc, List.drop_zero] at ht0
  have ets : t = s := by
    have e1 : (Value.agg cs).cells.toList.take 1 = [Value.string t] := ht0
    have e2 : (Value.agg cs).cells.toList[0]? = some (Value.string s) := by simpa [Value.cells] using hcs
    cases hl : (Value.agg cs).cells.toList with
    | nil => rw [hl] at e2; cases e2
    | cons a r => rw [hl] at e1 e2; simp at e1 e2; rw [e1] at e2; injection e2
  subst ets
  injection hxd with hd1 _
  have hw : t.data.toList.length ∈ d.weights P T := by
    rw [hd1]
    simp only [DataW.weights, hu]
    have hm := DataW.weights_mem_each (P := P) (ts := fs.toList.map (·.type)) (ds := xs.map (·.1)) (j := 0) (t := f.type) (d := xs[0].1) (by rw [List.getElem?_map, Array.getElem?_toList, hf]; rfl) (by rw [List.getElem?_map, List.getElem?_eq_getElem hpos]; rfl) t.data.toList.length
    apply hm
    rw [hx0]
    simp [DataW.weights]
  have := List.all_eq_true.1 h _ (DataW.weights_mem_each ht hd _ hw)
  have e : t.data.toList.length = t.size := Array.length_toList
  rw [e] at this
  have hr : reachBytes = 140737488351232 := by decide
  rw [← hr]
  simpa using this
end Go.Recs

/- A law's arguments: products and series, by value and in slices. -/
namespace Go.Proofs.Ytafdjiilmogcjaa
open Go.ChangeShapes Go.WideShapes Go.ChangeAt Go.RowKit Go.Recs
set_option linter.unusedVariables false
set_option maxRecDepth 100000

theorem prod_leafs : leafs Try.prog 2 65 = some prodL := by kernel_rfl
theorem ser_leafs : leafs Try.prog 2 43 = some serL := by kernel_rfl
theorem open_prodV {H : Type} {enc : TypeId × Value → H} {W : World} {base b0 : Nat} {spare : Nat → Bool} {held : Bool} {r : Reach} {v : Value} {d : DataW H} {p : List MemPlace}
    (hv : Value.okWide Try.prog W r b0 65 v) (h : DataW.Trod enc Try.prog W base spare held 65 v d p) :
    ∃ x : QM.Prod, v = .agg #[.string x.name, .int .i64 x.cur, .int .i64 x.mult, .int .i64 x.tick, .int .i64 x.low, .int .i64 x.high, .bool x.phys] ∧ prodQ x := by
  obtain ⟨cs, rfl, hk⟩ := open_rec (n := 2) Try.underlying65 prod_leafs (by kernel_rfl) hv h
  obtain ⟨x, rfl, hq⟩ := prod_row cs hk
  exact ⟨x, rfl, hq⟩
theorem open_serV {H : Type} {enc : TypeId × Value → H} {W : World} {base b0 : Nat} {spare : Nat → Bool} {held : Bool} {r : Reach} {v : Value} {d : DataW H} {p : List MemPlace}
    (hv : Value.okWide Try.prog W r b0 43 v) (h : DataW.Trod enc Try.prog W base spare held 43 v d p) :
    ∃ x : EM.Ser, v = .agg #[.string x.prod, .int .i64 x.kind, .int .i64 x.expiry, .int .i64 x.strike] ∧ serQ x := by
  obtain ⟨cs, rfl, hk⟩ := open_rec (n := 2) Try.underlying43 ser_leafs (by kernel_rfl) hv h
  obtain ⟨x, rfl, hq⟩ := ser_row cs hk
  exact ⟨x, rfl, hq⟩
theorem prod_sized {H : Type} {enc : TypeId × Value → H} {W : World} {base : Nat} {spare : Nat → Bool} {held : Bool} {x : QM.Prod} {d : DataW H} {p : List MemPlace} {ts : List TypeId} {ds : List (DataW H)} {j : Nat}
    (h : (DataW.weightsEach Try.prog ts ds).all (· ≤ reachBytes) = true) (ht : ts[j]? = some 65) (hd : ds[j]? = some d)
    (hT : DataW.Trod enc Try.prog W base spare held 65 (.agg #[.string x.name, .int .i64 x.cur, .int .i64 x.mult, .int .i64 x.tick, .int .i64 x.low, .int .i64 x.high, .bool x.phys]) d p) : x.name.size ≤ 140737488351232 :=
  first_sized (cs := #[.string x.name, .int .i64 x.cur, .int .i64 x.mult, .int .i64 x.tick, .int .i64 x.low, .int .i64 x.high, .bool x.phys]) h ht hd hT Try.underlying65 rfl rfl Try.underlying9 (by kernel_rfl) rfl
theorem ser_sized {H : Type} {enc : TypeId × Value → H} {W : World} {base : Nat} {spare : Nat → Bool} {held : Bool} {x : EM.Ser} {d : DataW H} {p : List MemPlace} {ts : List TypeId} {ds : List (DataW H)} {j : Nat}
    (h : (DataW.weightsEach Try.prog ts ds).all (· ≤ reachBytes) = true) (ht : ts[j]? = some 43) (hd : ds[j]? = some d)
    (hT : DataW.Trod enc Try.prog W base spare held 43 (.agg #[.string x.prod, .int .i64 x.kind, .int .i64 x.expiry, .int .i64 x.strike]) d p) : x.prod.size ≤ 140737488351232 :=
  first_sized (cs := #[.string x.prod, .int .i64 x.kind, .int .i64 x.expiry, .int .i64 x.strike]) h ht hd hT Try.underlying43 rfl rfl Try.underlying9 (by kernel_rfl) rfl
end Go.Proofs.Ytafdjiilmogcjaa
