import Derived.Test.YtagmknahmkniaaaBun9
import Derived.Test.YtagmknahmkniaaaBun10
import Derived.Deep.Cut
namespace Go.Proofs.Ytagmknahmkniaaa.curveFills
open Go.RowKit Go.Recs
open Go.Proofs.Ytagmknahmkniaaa.curveMoves
set_option linter.unusedVariables false
set_option linter.unusedSimpArgs false
theorem q_fill {l : List UM.Pt} {tick : Int} (hq : ∀ p ∈ l, ptQ p) : ∀ p ∈ UM.fillR l tick, ptQ p := by
  intro p hp
  by_cases h : UM.tickE l tick = 0
  · obtain ⟨g, ht⟩ := UM.tick_zero h
    rw [UM.fill_yes h] at hp
    obtain ⟨q, hq', rfl⟩ := List.mem_map.1 hp
    have hd := g.ord.mem q hq'
    have h1 := UM.price_in g (day := q.exp) (tick := tick) ⟨hd.1, hd.2.1⟩ ht
    refine ⟨by rw [UM.fillP_exp]; exact (hq q hq').1, ?_⟩
    rw [UM.fillP_price g tick hq']
    exact ⟨by omega, by omega⟩
  · rw [UM.fill_no h] at hp; cases hp
theorem q_move {l : List UM.Pt} {b lo hi : Int} (hq : ∀ p ∈ l, ptQ p) (hlo : i64 lo) (hhi : i64 hi) : ∀ p ∈ UM.moveR l b lo hi, ptQ p := by
  intro p hp
  by_cases h : UM.moveE l b lo hi = 0
  · rw [UM.move_yes h] at hp
    obtain ⟨q, hq', rfl⟩ := List.mem_map.1 hp
    have h1 := hq q hq'
    have hc : UM.checkE l = 0 := by
      unfold UM.moveE at h
      split at h
      · rename_i g; exact absurd h g
      · rename_i g; exact Classical.byContradiction g
    have hle : (UM.isP lo && UM.isP hi && decide (lo ≤ hi)) = true := by
      unfold UM.moveE at h
      rw [if_neg (by simp [hc])] at h
      split at h
      · cases h
      · split at h
        · cases h
        · rename_i g
          cases hqq : (UM.isP lo && UM.isP hi && decide (lo ≤ hi))
          · exact absurd hqq g
          · rfl
    simp only [Bool.and_eq_true, decide_eq_true_eq] at hle
    by_cases hk : q.known = true
    · have e : UM.moveP b lo hi q = ⟨q.exp, CM.clamp (q.price + b) lo hi, true⟩ := by unfold UM.moveP; rw [if_pos hk]
      rw [e]
      have hcl : lo ≤ CM.clamp (q.price + b) lo hi ∧ CM.clamp (q.price + b) lo hi ≤ hi := by
        have := hle.2
        unfold CM.clamp; split <;> (try split) <;> omega
      obtain ⟨l1, l2⟩ := hlo
      obtain ⟨l3, l4⟩ := hhi
      exact ⟨h1.1, by show _ ≤ CM.clamp (q.price + b) lo hi; omega, by show CM.clamp (q.price + b) lo hi ≤ _; omega⟩
    · have e : UM.moveP b lo hi q = q := by unfold UM.moveP; rw [if_neg hk]
      rw [e]; exact h1
  · rw [UM.move_no h] at hp; cases hp
theorem own_form {w : World} {B : Nat} {v : Value} {rows : List (List Value)} (h : OwnR w B 44 3 v rows) : ∀ k, v.ownBlock = some k → B ≤ k ∧ k < w.heap.size := fun k hk => ⟨h.block k hk, (World.ownsRow.lt h.2 k hk).2⟩
set_option maxHeartbeats 8000000 in
set_option maxRecDepth 100000 in
theorem walk (A : Option Addr) (cap : Nat) (l : List UM.Pt) (tick : Int) (x : UM.By) (w : World) (hI : Pts w A l ∧ l.length ≤ cap) (ht : -9223372036854775808 ≤ tick ∧ tick ≤ 9223372036854775807) (hx : byQ x) :
    Calls Try.prog 4 #[.slice A l.length cap, .int .i64 tick, .agg #[.int .i64 x.n, .int .i64 x.lo, .int .i64 x.hi]] w fun e w' => e = .returned (.bool true) ∧ Below w.heap.size w w' := by
  obtain ⟨hI, _⟩ := hI
  have hlen := hI.len
  have CG := Lib.hid (fun ww => goes19_any ww)
  have HB0 := Lib.hid (below_al (Below.refl w.heap.size w) (.cells #[.int .i64 x.n, .int .i64 x.lo, .int .i64 x.hi] 34))
  by_cases h3 : 300 < l.length
  · have h3' : (300 : Int) < (l.length : Int) := by omega
    clear hI h3
    go_enter Try.func4, Try.ntmps4
    go_wp2_with fail
    refine (CG.out _).mono ?_
    rintro e w1 ⟨rfl, b1⟩
    have HB1 := Lib.hid (HB0.out.trans (b1.mono HB0.out.size))
    clear b1
    go_wp2_with fail
    go_ret
    exact ⟨rfl, HB1.out⟩
  have h3' : ¬ (300 : Int) < (l.length : Int) := by omega
  have HX0 := Lib.hid (CB.new w 34 #[.int .i64 x.n, .int .i64 x.lo, .int .i64 x.hi])
  have HI0 := Lib.hid (hI.below ((Below.refl _ w).alloc (Nat.le_refl _) (.cells #[.int .i64 x.n, .int .i64 x.lo, .int .i64 x.hi] 34)))
  have HQ := Lib.hid hI.2
  have HL : Hid ((l.map ptV).length * 24 ≤ 140737488355328 ∧ (l.map ptV).length ≤ maxLen) := Lib.hid (by simp only [List.length_map, maxLen]; omega)
  have CL := Lib.hid (fun A c ww h => ufill_any A l l.length c rfl tick ww h)
  have CRL := Lib.hid (fun ww h => rfill_any A l l.length cap rfl tick ww h)
  have CS := Lib.hid (fun A c ww h => ushift_any A l l.length c rfl x.n x.lo x.hi ww h)
  have CRS := Lib.hid (fun ww h => rshift_any A l l.length cap rfl x.n x.lo x.hi hx.2.1 hx.2.2 ww h)
  have CE := Lib.hid (fun A B l n c m d ww hn hm h1 h2 => usame_any A B l n c m d hn hm ww h1 h2)
  have CT := Lib.hid (fun v rows B ww h => touched_any v rows B ww h)
  have QF := Lib.hid (q_fill (tick := tick) hI.2)
  have QM' := Lib.hid (q_move (b := x.n) hI.2 hx.2.1 hx.2.2)
  generalize UM.fillR l tick = fl at *
  generalize UM.tickE l tick = te at *
  generalize UM.moveR l x.n x.lo x.hi = mv at *
  generalize UM.moveE l x.n x.lo x.hi = me at *
  clear hI h3 hx
  go_enter Try.func4, Try.ntmps4
  go_upto_region 3 with fail
  generalize w.alloc (.cells #[.int .i64 x.n, .int .i64 x.lo, .int .i64 x.hi] 34) = w0 at *
  have HBE : Hid (Below w0.heap.size w0 (w0.alloc (.cells #[] 44))) := Lib.hid ((Below.refl _ _).alloc (Nat.le_refl _) _)
  go_wp2_with (at_builtin; refine wpList_catR _ w0.heap.size [] (l.map ptV) _ _ _ 44 3 24 _ Try.underlying22 info_pt rfl (by decide) rfl rfl _ _ _ _ rfl rfl ?c0 ?c1 ?c2 (pts_one l) ?c3 ?c4 ?c5 ?_)
  case c1 => exact OwnR.empty w0 w0.heap.size 44 3 (Nat.le_refl _)
  case c2 => exact (HI0.out.below HBE.out).1
  case c3 => have := HL.out.1; simpa using this
  case c4 => have := HL.out.2; simpa using this
  rintro v1 w1 hO hb hg
  obtain ⟨A1, c1, rfl, hP1⟩ := pts_of (show OwnR w1 w0.heap.size 44 3 v1 (l.map ptV) by simpa using hO) HQ.out
  have HB1 := Lib.hid (HBE.out.trans hb)
  have HP1 := Lib.hid hP1
  have HI1 := Lib.hid (HI0.out.below HB1.out)
  have HX1 := Lib.hid (HX0.out.below HB1.out HX0.out.lt)
  have HBF1 := Lib.hid (HB0.out.trans (HB1.out.mono HB0.out.size))
  clear hO hb hg hP1 HB1 HI0 HX0 HBE
  go_wp2_with fail
  refine (CL.out _ _ _ HP1.out).mono ?_
  rintro e w2 ⟨v2, rfl, o2, b2⟩
  have HB2 : Hid (Below w1.heap.size w1 w2) := Lib.hid b2
  have HO2 := Lib.hid o2
  have HF2 := Lib.hid (own_form o2)
  have HB2' := Lib.hid b2.size
  clear b2 o2
  go_wp2_with fail
  refine (CRL.out _ (HI1.out.below HB2.out)).mono ?_
  rintro e w3 ⟨v3, rfl, o3, b3⟩
  have HB3 := Lib.hid (HB2.out.trans (b3.mono HB2.out.size))
  have HO23 := Lib.hid (HO2.out.below b3)
  have HO3 := Lib.hid o3
  have HZ3 := Lib.hid b3.size
  have HX3 := Lib.hid (HX1.out.below HB3.out HX1.out.lt)
  clear b3 o3 HB2
  have x0 := HX3.out.cell 0
  have x1 := HX3.out.cell 1
  have x2 := HX3.out.cell 2
  simp only [List.getElem?_toArray, List.getElem?_cons_zero, List.getElem?_cons_succ] at x0 x1 x2
  go_wp2_with fail
  refine (CS.out _ _ _ (HP1.out.below HB3.out)).mono ?_
  rintro e w4 ⟨v4, rfl, o4, b4⟩
  have HB4 := Lib.hid (HB3.out.trans (b4.mono HB3.out.size))
  have HO24 := Lib.hid (HO23.out.below b4)
  have HO34 := Lib.hid (HO3.out.below b4)
  have HO4 := Lib.hid o4
  have HF4 := Lib.hid (own_form o4)
  have HX4 := Lib.hid (HX3.out.below b4 HX3.out.lt)
  have HZ4 := Lib.hid b4.size
  clear b4 o4 HB3 x0 x1 x2
  have x0 := HX4.out.cell 0
  have x1 := HX4.out.cell 1
  have x2 := HX4.out.cell 2
  simp only [List.getElem?_toArray, List.getElem?_cons_zero, List.getElem?_cons_succ] at x0 x1 x2
  go_wp2_with fail
  refine (CRS.out _ (HI1.out.below HB4.out)).mono ?_
  rintro e w5 ⟨v5, rfl, o5, b5⟩
  have HB5 := Lib.hid (HB4.out.trans (b5.mono HB4.out.size))
  have HO25 := Lib.hid (HO24.out.below b5)
  have HO35 := Lib.hid (HO34.out.below b5)
  have HO45 := Lib.hid (HO4.out.below b5)
  have HZ5 := Lib.hid b5.size
  obtain ⟨A2, c2, rfl, hp2⟩ := pts_of HO25.out QF.out
  obtain ⟨A3, c3, rfl, hp3⟩ := pts_of HO35.out QF.out
  obtain ⟨A4, c4, rfl, hp4⟩ := pts_of HO45.out QM'.out
  obtain ⟨A5, c5, rfl, hp5⟩ := pts_of o5 QM'.out
  have HP2 := Lib.hid hp2; have HP3 := Lib.hid hp3; have HP4 := Lib.hid hp4; have HP5 := Lib.hid hp5
  clear b5 o5 hp2 hp3 hp4 hp5 x0 x1 x2 HB4
  go_wp2_with fail
  refine (CE.out _ _ fl _ _ _ _ _ rfl rfl HP2.out HP3.out).mono ?_
  rintro e w6 ⟨rfl, k6, rfl⟩
  have HP46 : Hid (Pts (w5.drewN k6) A4 mv) := Lib.hid HP4.out
  have HP56 : Hid (Pts (w5.drewN k6) A5 mv) := Lib.hid HP5.out
  go_wp2_with fail
  refine (CE.out _ _ mv _ _ _ _ _ rfl rfl HP46.out HP56.out).mono ?_
  rintro e w7 ⟨rfl, k7, rfl⟩
  have HB7 : Hid (Below w1.heap.size w1 ((w5.drewN k6).drewN k7)) := Lib.hid (below_drewN (below_drewN HB5.out k6) k7)
  have HO27 : Hid (OwnR ((w5.drewN k6).drewN k7) w1.heap.size 44 3 (.slice A2 fl.length c2) (fl.map ptV)) := Lib.hid HO25.out
  have HO47 : Hid (OwnR ((w5.drewN k6).drewN k7) w3.heap.size 44 3 (.slice A4 mv.length c4) (mv.map ptV)) := Lib.hid HO45.out
  have HZ7 : Hid (w3.heap.size ≤ ((w5.drewN k6).drewN k7).heap.size) := Lib.hid (Nat.le_trans HZ4.out HZ5.out)
  generalize (w5.drewN k6).drewN k7 = w7 at *
  clear HP2 HP3 HP4 HP5 HP46 HP56 HB5 HO25 HO35 HO45
  go_wp2_with fail
  refine (CT.out _ _ _ _ HO27.out).mono ?_
  rintro e w8 ⟨⟨r8, rfl⟩, t8⟩
  have HB8 := Lib.hid (HB7.out.trans (t8.below (fun k hk => (HF2.out k hk).1) HB7.out.size))
  have HO48 := Lib.hid (HO47.out.kept (fun g hg hl => t8.block g hl (fun e => by have := (HF2.out g e).2; have := HZ3.out; omega)))
  clear t8
  go_wp2_with fail
  refine (CT.out _ _ _ _ HO48.out).mono ?_
  rintro e w9 ⟨⟨r9, rfl⟩, t9⟩
  have HB9 := Lib.hid (HB8.out.trans (t9.below (fun k hk => Nat.le_trans (Nat.le_trans HB2'.out HZ3.out) (HF4.out k hk).1) HB8.out.size))
  clear t9
  go_wp2_with fail
  refine (CE.out _ _ l _ _ _ _ _ rfl rfl (HP1.out.below HB9.out) (HI1.out.below HB9.out)).mono ?_
  rintro e w10 ⟨rfl, k10, rfl⟩
  have HB10 := Lib.hid (HBF1.out.trans ((below_drewN HB9.out k10).mono HBF1.out.size))
  go_wp2_with fail
  refine (CG.out _).mono ?_
  rintro e w11 ⟨rfl, b11⟩
  have HB11 := Lib.hid (HB10.out.trans (b11.mono HB10.out.size))
  clear b11
  go_wp2_with fail
  go_ret
  exact ⟨rfl, HB11.out⟩
end Go.Proofs.Ytagmknahmkniaaa.curveFills
