/- Put together: PosT, PosU0. -/
import Derived.Test.YtdhkflmodcgooaaBun11
import Derived.Deep.RegionHeld3
import Derived.Test.YtdhkflmodcgooaaBun9
/- Contracts of layer 15's reference: put. -/
namespace PO
def d0 (p : Pos) : Bool := (p.lo == 0) && (p.sh == 0)
def foldU (l : List Pos) (p : Pos) (k : Nat) : List Pos × Bool := (l.take k).foldl (stepR p) ([], d0 p)
theorem fold_zero (l : List Pos) (p : Pos) : foldU l p 0 = ([], d0 p) := rfl
theorem fold_step {l : List Pos} {p : Pos} {k : Nat} (hk : k < l.length) : foldU l p (k + 1) = stepR p (foldU l p k) (pAt l k) := by
  unfold foldU
  rw [List.take_add_one, List.getElem?_eq_getElem hk, List.foldl_append, pAt_get hk]
  rfl
theorem fold_len (l : List Pos) (p : Pos) : ∀ k, k ≤ l.length → (foldU l p k).1.length ≤ 2 * k := by
  intro k
  induction k with
  | zero => intro _; simp [fold_zero]
  | succ k ih =>
    intro hk
    have := ih (by omega)
    rw [fold_step (by omega)]
    unfold stepR
    split
    · omega
    · split <;> simp <;> omega
theorem fold_done (l : List Pos) (p : Pos) : (if (foldU l p l.length).2 = true then (foldU l p l.length).1 else (foldU l p l.length).1 ++ [p]) = putsL l p := by
  unfold foldU
  rw [List.take_length]
  unfold putsL
  cases hd : d0 p
  · rw [fold_ins p l [], List.nil_append]
    unfold d0 at hd
    rw [if_neg (by intro h; rw [h.1, h.2] at hd; simp at hd)]
  · rw [fold_others p l []]
    unfold d0 at hd
    simp only [Bool.and_eq_true, beq_iff_eq] at hd
    rw [if_pos hd]
    simp
def putE (l : List Pos) (p : Pos) : Int := if 1048576 < p.lo ∨ 1048576 < p.sh then 18 else if 128 < (putsL l p).length then 8 else 0
def putR (l : List Pos) (p : Pos) : List Pos := if putE l p = 0 then putsL l p else []
theorem put_big {l : List Pos} {p : Pos} (h : 1048576 < p.lo ∨ 1048576 < p.sh) : putE l p = 18 ∧ putR l p = [] := by
  have e : putE l p = 18 := by unfold putE; rw [if_pos h]
  exact ⟨e, by unfold putR; rw [e]; rfl⟩
theorem put_long {l : List Pos} {p : Pos} (h : ¬ (1048576 < p.lo ∨ 1048576 < p.sh)) (h2 : 128 < (putsL l p).length) : putE l p = 8 ∧ putR l p = [] := by
  have e : putE l p = 8 := by unfold putE; rw [if_neg h, if_pos h2]
  exact ⟨e, by unfold putR; rw [e]; rfl⟩
theorem put_ok {l : List Pos} {p : Pos} (h : ¬ (1048576 < p.lo ∨ 1048576 < p.sh)) (h2 : ¬ 128 < (putsL l p).length) : putE l p = 0 ∧ putR l p = putsL l p := by
  have e : putE l p = 0 := by unfold putE; rw [if_neg h, if_neg h2]
  exact ⟨e, by unfold putR; rw [if_pos e]⟩
end PO
namespace Go.Proofs.Ytdhkflmodcgooaa
open Go.RowKit Go.Recs
set_option linter.unusedVariables false
set_option linter.unusedSimpArgs false
set_option maxRecDepth 100000 in
set_option maxHeartbeats 8000000 in
theorem rput15_any (A : Option Addr) (l : List PO.Pos) (n cap : Nat) (hn : n = l.length) (hl : l.length ≤ 1048576) (p : PO.Pos) (w : World) (hI : Poss w A l) :
    Calls Try.prog 62 #[.slice A n cap, posA p] w fun e w' => ∃ v, e = .returned (.tuple #[v, .int .i64 (PO.putE l p)]) ∧ OwnR w' w.heap.size 46 6 v ((PO.putR l p).map posV) ∧ Below w.heap.size w w' := by
  subst hn
  have hlen := hI.len
  have HB0 := Lib.hid (below_al (Below.refl w.heap.size w) (.cells #[.string p.ser.prod, .int .i64 p.ser.kind, .int .i64 p.ser.expiry, .int .i64 p.ser.strike, .int .i64 p.lo, .int .i64 p.sh] 46))
  have HP0 := Lib.hid (CB.new w 46 #[.string p.ser.prod, .int .i64 p.ser.kind, .int .i64 p.ser.expiry, .int .i64 p.ser.strike, .int .i64 p.lo, .int .i64 p.sh])
  have HI := Lib.hid (hI.below HB0.out)
  have c0 := HP0.out.cell 0
  have c1 := HP0.out.cell 1
  have c2 := HP0.out.cell 2
  have c3 := HP0.out.cell 3
  have c4 := HP0.out.cell 4
  have c5 := HP0.out.cell 5
  simp only [List.getElem?_toArray, List.getElem?_cons_zero, List.getElem?_cons_succ] at c0 c1 c2 c3 c4 c5
  by_cases h1 : 1048576 < p.lo
  · rw [(PO.put_big (l := l) (p := p) (.inl h1)).1, (PO.put_big (l := l) (p := p) (.inl h1)).2]
    clear hI
    go_enter Try.func62, Try.ntmps62
    go_wp2_with fail
    go_ret2
    exact ⟨_, rfl, OwnR.nil _ _ _ _, HB0.out⟩
  have e1 : decide (1048576 < p.lo) = false := decide_eq_false h1
  by_cases h2 : 1048576 < p.sh
  · rw [(PO.put_big (l := l) (p := p) (.inr h2)).1, (PO.put_big (l := l) (p := p) (.inr h2)).2]
    clear hI
    go_enter Try.func62, Try.ntmps62
    go_wp2_with fail
    go_ret2
    exact ⟨_, rfl, OwnR.nil _ _ _ _, HB0.out⟩
  have e2 : decide (1048576 < p.sh) = false := decide_eq_false h2
  have KL := Lib.hid (@PO.put_long l p (by omega))
  have KO := Lib.hid (@PO.put_ok l p (by omega))
  have KF := Lib.hid (fun k => @PO.fold_step l p k)
  have KN := Lib.hid (PO.fold_len l p)
  have KD := Lib.hid (PO.fold_done l p)
  have KZ : Hid (PO.foldU l p 0 = ([], (p.lo == 0) && (p.sh == 0))) := Lib.hid rfl
  have CC := Lib.hid (fun a ww => rcmp10_any a p.ser ww)
  have E2 := ser_guard
  generalize PO.putE l p = pe at *
  generalize PO.putR l p = pr at *
  generalize PO.putsL l p = pl at *
  clear hI h1 h2
  have key : ∀ dz : Bool, ((p.lo == 0) && (p.sh == 0)) = dz → Calls Try.prog 62 #[.slice A l.length cap, posA p] w fun e w' => ∃ v, e = .returned (.tuple #[v, .int .i64 pe]) ∧ OwnR w' w.heap.size 46 6 v (pr.map posV) ∧ Below w.heap.size w w' := by
    intro dz hdz
    rw [hdz] at KZ
    cases z1 : (p.lo == 0)
    · rw [z1] at hdz
      obtain rfl : dz = false := by simpa using hdz.symm
      clear hdz
      go_enter Try.func62, Try.ntmps62
      go_wp2_with fail
      generalize w.alloc (.cells #[.string p.ser.prod, .int .i64 p.ser.kind, .int .i64 p.ser.expiry, .int .i64 p.ser.strike, .int .i64 p.lo, .int .i64 p.sh] 46) = w0 at *
      go_loopw [6, 7, 8] (fun v d i wr => ∃ k : Nat, k ≤ l.length ∧ i = .int .i64 (k : Int) ∧ (∃ (rows : List PO.Pos) (dn : Bool), d = .bool dn ∧ Hid (PO.foldU l p k = (rows, dn)) ∧ Hid (OwnR wr w0.heap.size 46 6 v (rows.map posV))) ∧ Hid (Below w0.heap.size w0 wr)) (fun _ _ i _ => l.length - (intOf i).toNat)
      case atStart => exact ⟨0, by omega, rfl, ⟨[], false, rfl, KZ, Lib.hid (OwnR.nil _ _ _ _)⟩, Lib.hid (Below.refl _ _)⟩
      case round =>
        clear c0 c1 c2 c3 c4 c5
        obtain ⟨k, hk, rfl, ⟨rows, dn, rfl, HF, HO⟩, HB⟩ := hrel
        have hrl : (rows.map posV).length ≤ 2 * k := by have := KN.out k hk; rw [HF.out] at this; rw [List.length_map]; exact this
        by_cases hlt : k < l.length
        · obtain ⟨b, off, x, rfl, hb, HV, qx, d0, d1, d2, d3, d4, d5⟩ := poss_get (HI.out.below HB.out) hlt
          have HFS : Hid (PO.foldU l p (k + 1) = PO.stepR p (rows, dn) x) := Lib.hid (by rw [KF.out k hlt, HF.out, HV.out])
          have HPw := HP0.out.below HB.out HP0.out.lt
          have HSX : Hid (∀ ww, Below wr.heap.size wr ww → (ww.cell? ⟨b, off + k * 6, none⟩ = some (.string x.ser.prod) ∧ ww.cell? ⟨b, off + k * 6 + 1, none⟩ = some (.int .i64 x.ser.kind) ∧ ww.cell? ⟨b, off + k * 6 + 2, none⟩ = some (.int .i64 x.ser.expiry) ∧ ww.cell? ⟨b, off + k * 6 + 3, none⟩ = some (.int .i64 x.ser.strike) ∧ ww.cell? ⟨b, off + k * 6 + 4, none⟩ = some (.int .i64 x.lo) ∧ ww.cell? ⟨b, off + k * 6 + 5, none⟩ = some (.int .i64 x.sh)) ∧ (ww.cell? ⟨w.heap.size, 0, none⟩ = some (.string p.ser.prod) ∧ ww.cell? ⟨w.heap.size, 1, none⟩ = some (.int .i64 p.ser.kind) ∧ ww.cell? ⟨w.heap.size, 2, none⟩ = some (.int .i64 p.ser.expiry) ∧ ww.cell? ⟨w.heap.size, 3, none⟩ = some (.int .i64 p.ser.strike) ∧ ww.cell? ⟨w.heap.size, 4, none⟩ = some (.int .i64 p.lo) ∧ ww.cell? ⟨w.heap.size, 5, none⟩ = some (.int .i64 p.sh))) := Lib.hid (fun ww h => by
            have hd := fun o => h.cell (p := ⟨b, o, none⟩) hb
            have hq := HPw.below h HPw.lt
            exact ⟨⟨(hd _).trans d0, (hd _).trans d1, (hd _).trans d2, (hd _).trans d3, (hd _).trans d4, (hd _).trans d5⟩, hq.cell 0, hq.cell 1, hq.cell 2, hq.cell 3, hq.cell 4, hq.cell 5⟩)
          have HVX := Lib.hid HV.out
          clear d0 d1 d2 d3 d4 d5 HV HPw qx
          obtain ⟨⟨x0, x1, x2, x3, x4, x5⟩, p0, p1, p2, p3, p4, p5⟩ := HSX.out _ (Below.refl _ _)
          have E1 : ∀ ww, (Op.equalIn 10000 44 (.agg #[.string x.ser.prod, .int .i64 x.ser.kind, .int .i64 x.ser.expiry, .int .i64 x.ser.strike]) (.agg #[.string p.ser.prod, .int .i64 p.ser.kind, .int .i64 p.ser.expiry, .int .i64 p.ser.strike])).run Try.prog ww = .ok (NM.seqB x.ser p.ser) ww := fun ww => ser_in x.ser p.ser ww
          cases hs : NM.seqB x.ser p.ser
          · rw [hs] at E1
            cases dn
            · have CM := Lib.hid (fun ww => CC.out x.ser ww)
              by_cases hc : 0 < EM.cmp x.ser p.ser
              · have HFX : Hid (PO.foldU l p (k + 1) = (rows ++ [p, x], true)) := Lib.hid (by rw [HFS.out]; unfold PO.stepR; rw [hs, if_neg (by simp), if_pos ⟨rfl, hc⟩])
                generalize EM.cmp x.ser p.ser = cm at *
                clear hs HFS
                go_wp2_with fail
                go_quiet (fail)
                go_wp2_with fail
                have HBw := Lib.hid (below_drewN (Below.refl wr.heap.size wr) nq).drew
                go_region_held3 (fun ww => (ww.cell? ⟨b, off + k * 6, none⟩ = some (.string x.ser.prod) ∧ ww.cell? ⟨b, off + k * 6 + 1, none⟩ = some (.int .i64 x.ser.kind) ∧ ww.cell? ⟨b, off + k * 6 + 2, none⟩ = some (.int .i64 x.ser.expiry) ∧ ww.cell? ⟨b, off + k * 6 + 3, none⟩ = some (.int .i64 x.ser.strike) ∧ ww.cell? ⟨b, off + k * 6 + 4, none⟩ = some (.int .i64 x.lo) ∧ ww.cell? ⟨b, off + k * 6 + 5, none⟩ = some (.int .i64 x.sh)) ∧ (ww.cell? ⟨w.heap.size, 0, none⟩ = some (.string p.ser.prod) ∧ ww.cell? ⟨w.heap.size, 1, none⟩ = some (.int .i64 p.ser.kind) ∧ ww.cell? ⟨w.heap.size, 2, none⟩ = some (.int .i64 p.ser.expiry) ∧ ww.cell? ⟨w.heap.size, 3, none⟩ = some (.int .i64 p.ser.strike) ∧ ww.cell? ⟨w.heap.size, 4, none⟩ = some (.int .i64 p.lo) ∧ ww.cell? ⟨w.heap.size, 5, none⟩ = some (.int .i64 p.sh)))
                  (with_reducible exact HSX.out _ HBw.out)
                  ((go_at_call 49; refine (CM.out _).mono ?_; rintro e w3 ⟨rfl, b3⟩; replace HBw := Lib.hid (HBw.out.trans (b3.mono HBw.out.size)); clear b3))
                all_goals (
                  have HBx := Lib.hid (HB.out.trans (HBw.out.mono HB.out.size))
                  have HOx := Lib.hid (HO.out.below HBw.out)
                  obtain ⟨⟨x0, x1, x2, x3, x4, x5⟩, p0, p1, p2, p3, p4, p5⟩ := HSX.out _ HBw.out
                  clear HSX HBw HO HB
                  generalize hrw : rows.map posV = rv at *
                  have HRV := Lib.hid hrw
                  clear hrw
                  go_wp2_with (at_builtin; refine wpList_pushR _ [.string p.ser.prod, .int .i64 p.ser.kind, .int .i64 p.ser.expiry, .int .i64 p.ser.strike, .int .i64 p.lo, .int .i64 p.sh] (posV_one [p] _ (by simp [posV])) w0.heap.size (rv) _ _ 42 46 6 56 _ Try.underlying42 info_pos rfl (by decide) rfl rfl rfl _ (by first | rfl | trivial) (by first | rfl | trivial) HOx.out ?ga ?gb HBx.out.size ?_)
                  case ga => first | omega | (simp; omega)
                  case gb => first | (simp only [maxLen]; omega) | (simp [maxLen]; omega)
                  intro v4 w4 o4 b4 _ _
                  have HB4 := Lib.hid (HBx.out.trans b4)
                  have HO4 := Lib.hid o4
                  obtain ⟨y0, y1, y2, y3, y4, y5⟩ : (w4.cell? ⟨b, off + k * 6, none⟩ = some (.string x.ser.prod) ∧ w4.cell? ⟨b, off + k * 6 + 1, none⟩ = some (.int .i64 x.ser.kind) ∧ w4.cell? ⟨b, off + k * 6 + 2, none⟩ = some (.int .i64 x.ser.expiry) ∧ w4.cell? ⟨b, off + k * 6 + 3, none⟩ = some (.int .i64 x.ser.strike) ∧ w4.cell? ⟨b, off + k * 6 + 4, none⟩ = some (.int .i64 x.lo) ∧ w4.cell? ⟨b, off + k * 6 + 5, none⟩ = some (.int .i64 x.sh)) := by
                    obtain ⟨b9, off9, x9, e9, hb9, HV9, qx9, d0, d1, d2, d3, d4, d5⟩ := poss_get (HI.out.below HB4.out) hlt
                    injection e9 with e9; injection e9 with e91 e92; subst e91 e92
                    obtain rfl : x9 = x := HV9.out.symm.trans HVX.out
                    exact ⟨d0, d1, d2, d3, d4, d5⟩
                  clear o4 b4 HOx HBx x0 x1 x2 x3 x4 x5 p0 p1 p2 p3 p4 p5
                  go_wp2_with (at_builtin; refine wpList_pushR _ [.string x.ser.prod, .int .i64 x.ser.kind, .int .i64 x.ser.expiry, .int .i64 x.ser.strike, .int .i64 x.lo, .int .i64 x.sh] (posV_one [x] _ (by simp [posV])) w0.heap.size (rv ++ [[.string p.ser.prod, .int .i64 p.ser.kind, .int .i64 p.ser.expiry, .int .i64 p.ser.strike, .int .i64 p.lo, .int .i64 p.sh]]) _ _ 42 46 6 56 _ Try.underlying42 info_pos rfl (by decide) rfl rfl rfl _ (by first | rfl | trivial) (by first | rfl | trivial) HO4.out ?ga ?gb HB4.out.size ?_)
                  case ga => first | omega | (simp; omega)
                  case gb => first | (simp only [maxLen]; omega) | (simp [maxLen]; omega)
                  intro v5 w5 o5 b5 _ _
                  have HB5 := Lib.hid (HB4.out.trans b5)
                  have HO5 : Hid (OwnR w5 w0.heap.size 46 6 v5 ((rows ++ [p, x]).map posV)) := Lib.hid (by rw [List.map_append, HRV.out]; simpa [posV] using o5)
                  clear o5 b5 HO4 HB4 y0 y1 y2 y3 y4 y5
                  go_wp2_with fail
                  go_roundw
                  case rel => exact ⟨k + 1, by omega, by go_num, ⟨_, _, rfl, HFX, HO5⟩, HB5⟩
                  case measure => simp [intOf]; omega)
              · have HFX : Hid (PO.foldU l p (k + 1) = (rows ++ [x], false)) := Lib.hid (by rw [HFS.out]; unfold PO.stepR; rw [hs, if_neg (by simp), if_neg (by simp; omega)])
                have hcd : decide (0 < EM.cmp x.ser p.ser) = false := decide_eq_false hc
                generalize EM.cmp x.ser p.ser = cm at *
                clear hs HFS
                go_wp2_with fail
                go_quiet (fail)
                go_wp2_with fail
                have HBw := Lib.hid (below_drewN (Below.refl wr.heap.size wr) nq).drew
                go_region_held3 (fun ww => (ww.cell? ⟨b, off + k * 6, none⟩ = some (.string x.ser.prod) ∧ ww.cell? ⟨b, off + k * 6 + 1, none⟩ = some (.int .i64 x.ser.kind) ∧ ww.cell? ⟨b, off + k * 6 + 2, none⟩ = some (.int .i64 x.ser.expiry) ∧ ww.cell? ⟨b, off + k * 6 + 3, none⟩ = some (.int .i64 x.ser.strike) ∧ ww.cell? ⟨b, off + k * 6 + 4, none⟩ = some (.int .i64 x.lo) ∧ ww.cell? ⟨b, off + k * 6 + 5, none⟩ = some (.int .i64 x.sh)) ∧ (ww.cell? ⟨w.heap.size, 0, none⟩ = some (.string p.ser.prod) ∧ ww.cell? ⟨w.heap.size, 1, none⟩ = some (.int .i64 p.ser.kind) ∧ ww.cell? ⟨w.heap.size, 2, none⟩ = some (.int .i64 p.ser.expiry) ∧ ww.cell? ⟨w.heap.size, 3, none⟩ = some (.int .i64 p.ser.strike) ∧ ww.cell? ⟨w.heap.size, 4, none⟩ = some (.int .i64 p.lo) ∧ ww.cell? ⟨w.heap.size, 5, none⟩ = some (.int .i64 p.sh)))
                  (with_reducible exact HSX.out _ HBw.out)
                  ((go_at_call 49; refine (CM.out _).mono ?_; rintro e w3 ⟨rfl, b3⟩; replace HBw := Lib.hid (HBw.out.trans (b3.mono HBw.out.size)); clear b3))
                all_goals (
                  have HBx := Lib.hid (HB.out.trans (HBw.out.mono HB.out.size))
                  have HOx := Lib.hid (HO.out.below HBw.out)
                  obtain ⟨⟨x0, x1, x2, x3, x4, x5⟩, p0, p1, p2, p3, p4, p5⟩ := HSX.out _ HBw.out
                  clear HSX HBw HO HB
                  generalize hrw : rows.map posV = rv at *
                  have HRV := Lib.hid hrw
                  clear hrw
                  go_wp2_with (at_builtin; refine wpList_pushR _ [.string x.ser.prod, .int .i64 x.ser.kind, .int .i64 x.ser.expiry, .int .i64 x.ser.strike, .int .i64 x.lo, .int .i64 x.sh] (posV_one [x] _ (by simp [posV])) w0.heap.size (rv) _ _ 42 46 6 56 _ Try.underlying42 info_pos rfl (by decide) rfl rfl rfl _ (by first | rfl | trivial) (by first | rfl | trivial) HOx.out ?ga ?gb HBx.out.size ?_)
                  case ga => first | omega | (simp; omega)
                  case gb => first | (simp only [maxLen]; omega) | (simp [maxLen]; omega)
                  intro v5 w5 o5 b5 _ _
                  have HB5 := Lib.hid (HBx.out.trans b5)
                  have HO5 : Hid (OwnR w5 w0.heap.size 46 6 v5 ((rows ++ [x]).map posV)) := Lib.hid (by rw [List.map_append, HRV.out]; simpa [posV] using o5)
                  clear o5 b5 HOx HBx x0 x1 x2 x3 x4 x5 p0 p1 p2 p3 p4 p5
                  go_wp2_with fail
                  go_roundw
                  case rel => exact ⟨k + 1, by omega, by go_num, ⟨_, _, rfl, HFX, HO5⟩, HB5⟩
                  case measure => simp [intOf]; omega)
            · have HFX : Hid (PO.foldU l p (k + 1) = (rows ++ [x], true)) := Lib.hid (by rw [HFS.out]; unfold PO.stepR; rw [hs, if_neg (by simp), if_neg (by simp)])
              clear hs HFS HSX
              generalize hrw : rows.map posV = rv at *
              have HRV := Lib.hid hrw
              clear hrw
              go_wp2_with fail
              go_quiet (fail)
              go_wp2_with fail
              go_quiet (fail)
              go_wp2_with (at_builtin; refine wpList_pushR _ [.string x.ser.prod, .int .i64 x.ser.kind, .int .i64 x.ser.expiry, .int .i64 x.ser.strike, .int .i64 x.lo, .int .i64 x.sh] (posV_one [x] _ (by simp [posV])) w0.heap.size (rv) _ _ 42 46 6 56 _ Try.underlying42 info_pos rfl (by decide) rfl rfl rfl _ (by first | rfl | trivial) (by first | rfl | trivial) (HO.out.drewN _) ?ga ?gb (below_drewN HB.out _).size ?_)
              case ga => first | omega | (simp; omega)
              case gb => first | (simp only [maxLen]; omega) | (simp [maxLen]; omega)
              intro v5 w5 o5 b5 _ _
              have HB5 := Lib.hid ((below_drewN HB.out _).trans b5)
              have HO5 : Hid (OwnR w5 w0.heap.size 46 6 v5 ((rows ++ [x]).map posV)) := Lib.hid (by rw [List.map_append, HRV.out]; simpa [posV] using o5)
              clear o5 b5 HO HB x0 x1 x2 x3 x4 x5 p0 p1 p2 p3 p4 p5
              go_wp2_with fail
              go_roundw
              case rel => exact ⟨k + 1, by omega, by go_num, ⟨_, _, rfl, HFX, HO5⟩, HB5⟩
              case measure => simp [intOf]; omega
          · rw [hs] at E1
            have HFX : Hid (PO.foldU l p (k + 1) = (rows, dn)) := Lib.hid (by rw [HFS.out]; unfold PO.stepR; rw [hs, if_pos rfl])
            clear hs HFS HSX
            go_wp2_with fail
            go_quiet (fail)
            go_wp2_with fail
            go_roundw
            case rel => exact ⟨k + 1, by omega, by go_num, ⟨_, _, rfl, HFX, Lib.hid (HO.out.drewN _)⟩, Lib.hid (below_drewN HB.out _)⟩
            case measure => simp [intOf]; omega
        · obtain rfl : k = l.length := by omega
          have HKD := KD.out
          rw [HF.out] at HKD
          have HPw := HP0.out.below HB.out HP0.out.lt
          have p0 := HPw.cell 0
          have p1 := HPw.cell 1
          have p2 := HPw.cell 2
          have p3 := HPw.cell 3
          have p4 := HPw.cell 4
          have p5 := HPw.cell 5
          simp only [List.getElem?_toArray, List.getElem?_cons_zero, List.getElem?_cons_succ] at p0 p1 p2 p3 p4 p5
          have hpl := HPw.lt
          clear HPw
          cases dn
          · have HPL : Hid (rows ++ [p] = pl) := Lib.hid (by rw [← HKD]; rfl)
            clear HKD
            have hpll : pl.length = (rows.map posV).length + 1 := by rw [← HPL.out]; simp
            generalize hrw : rows.map posV = rv at *
            have HRV := Lib.hid hrw
            clear hrw
            go_wp2_with (at_builtin; refine wpList_pushR _ [.string p.ser.prod, .int .i64 p.ser.kind, .int .i64 p.ser.expiry, .int .i64 p.ser.strike, .int .i64 p.lo, .int .i64 p.sh] (posV_one [p] _ (by simp [posV])) w0.heap.size (rv) _ _ 42 46 6 56 _ Try.underlying42 info_pos rfl (by decide) rfl rfl rfl _ (by first | rfl | trivial) (by first | rfl | trivial) HO.out ?ga ?gb HB.out.size ?_)
            case ga => first | omega | (simp; omega)
            case gb => first | (simp only [maxLen]; omega) | (simp [maxLen]; omega)
            intro v5 w5 o5 b5 _ _
            have HB5 := Lib.hid (HB.out.trans b5)
            have HO5 : Hid (OwnR w5 w0.heap.size 46 6 v5 (pl.map posV)) := Lib.hid (by rw [← HPL.out, List.map_append, HRV.out]; simpa [posV] using o5)
            clear o5 b5 HO HB p0 p1 p2 p3 p4 p5 hpl
            obtain ⟨A5, k5, rfl, hR5, _⟩ := OwnR.recs HO5.out
            rw [List.length_map] at HO5 ⊢
            clear hR5
            by_cases hln : 128 < pl.length
            · obtain ⟨r1, r2⟩ := KL.out hln
              have HR1 := Lib.hid r1; have HR2 := Lib.hid r2
              clear r1 r2
              go_wp2_with fail
              go_ret2
              exact ⟨_, by rw [HR1.out] <;> rfl, by rw [HR2.out]; exact OwnR.nil _ _ _ _, HB0.out.trans (HB5.out.mono HB0.out.size)⟩
            · obtain ⟨r1, r2⟩ := KO.out hln
              have HR1 := Lib.hid r1; have HR2 := Lib.hid r2
              clear r1 r2
              go_wp2_with fail
              go_ret2
              exact ⟨_, by rw [HR1.out] <;> rfl, by rw [HR2.out]; exact HO5.out.lower HB0.out.size, HB0.out.trans (HB5.out.mono HB0.out.size)⟩
          · obtain rfl : rows = pl := by rw [← HKD]; rfl
            clear HKD
            obtain ⟨A5, k5, rfl, hR5, _⟩ := OwnR.recs HO.out
            rw [List.length_map] at HO ⊢
            clear hR5
            by_cases hln : 128 < rows.length
            · obtain ⟨r1, r2⟩ := KL.out hln
              have HR1 := Lib.hid r1; have HR2 := Lib.hid r2
              clear r1 r2
              go_wp2_with fail
              go_ret2
              exact ⟨_, by rw [HR1.out] <;> rfl, by rw [HR2.out]; exact OwnR.nil _ _ _ _, HB0.out.trans (HB.out.mono HB0.out.size)⟩
            · obtain ⟨r1, r2⟩ := KO.out hln
              have HR1 := Lib.hid r1; have HR2 := Lib.hid r2
              clear r1 r2
              go_wp2_with fail
              go_ret2
              exact ⟨_, by rw [HR1.out] <;> rfl, by rw [HR2.out]; exact HO.out.lower HB0.out.size, HB0.out.trans (HB.out.mono HB0.out.size)⟩
    · rw [z1] at hdz
      cases z2 : (p.sh == 0)
      · rw [z2] at hdz
        obtain rfl : dz = false := by simpa using hdz.symm
        clear hdz
        go_enter Try.func62, Try.ntmps62
        go_wp2_with fail
        generalize w.alloc (.cells #[.string p.ser.prod, .int .i64 p.ser.kind, .int .i64 p.ser.expiry, .int .i64 p.ser.strike, .int .i64 p.lo, .int .i64 p.sh] 46) = w0 at *
        go_loopw [6, 7, 8] (fun v d i wr => ∃ k : Nat, k ≤ l.length ∧ i = .int .i64 (k : Int) ∧ (∃ (rows : List PO.Pos) (dn : Bool), d = .bool dn ∧ Hid (PO.foldU l p k = (rows, dn)) ∧ Hid (OwnR wr w0.heap.size 46 6 v (rows.map posV))) ∧ Hid (Below w0.heap.size w0 wr)) (fun _ _ i _ => l.length - (intOf i).toNat)
        case atStart => exact ⟨0, by omega, rfl, ⟨[], false, rfl, KZ, Lib.hid (OwnR.nil _ _ _ _)⟩, Lib.hid (Below.refl _ _)⟩
        case round =>
          clear c0 c1 c2 c3 c4 c5
          obtain ⟨k, hk, rfl, ⟨rows, dn, rfl, HF, HO⟩, HB⟩ := hrel
          have hrl : (rows.map posV).length ≤ 2 * k := by have := KN.out k hk; rw [HF.out] at this; rw [List.length_map]; exact this
          by_cases hlt : k < l.length
          · obtain ⟨b, off, x, rfl, hb, HV, qx, d0, d1, d2, d3, d4, d5⟩ := poss_get (HI.out.below HB.out) hlt
            have HFS : Hid (PO.foldU l p (k + 1) = PO.stepR p (rows, dn) x) := Lib.hid (by rw [KF.out k hlt, HF.out, HV.out])
            have HPw := HP0.out.below HB.out HP0.out.lt
            have HSX : Hid (∀ ww, Below wr.heap.size wr ww → (ww.cell? ⟨b, off + k * 6, none⟩ = some (.string x.ser.prod) ∧ ww.cell? ⟨b, off + k * 6 + 1, none⟩ = some (.int .i64 x.ser.kind) ∧ ww.cell? ⟨b, off + k * 6 + 2, none⟩ = some (.int .i64 x.ser.expiry) ∧ ww.cell? ⟨b, off + k * 6 + 3, none⟩ = some (.int .i64 x.ser.strike) ∧ ww.cell? ⟨b, off + k * 6 + 4, none⟩ = some (.int .i64 x.lo) ∧ ww.cell? ⟨b, off + k * 6 + 5, none⟩ = some (.int .i64 x.sh)) ∧ (ww.cell? ⟨w.heap.size, 0, none⟩ = some (.string p.ser.prod) ∧ ww.cell? ⟨w.heap.size, 1, none⟩ = some (.int .i64 p.ser.kind) ∧ ww.cell? ⟨w.heap.size, 2, none⟩ = some (.int .i64 p.ser.expiry) ∧ ww.cell? ⟨w.heap.size, 3, none⟩ = some (.int .i64 p.ser.strike) ∧ ww.cell? ⟨w.heap.size, 4, none⟩ = some (.int .i64 p.lo) ∧ ww.cell? ⟨w.heap.size, 5, none⟩ = some (.int .i64 p.sh))) := Lib.hid (fun ww h => by
              have hd := fun o => h.cell (p := ⟨b, o, none⟩) hb
              have hq := HPw.below h HPw.lt
              exact ⟨⟨(hd _).trans d0, (hd _).trans d1, (hd _).trans d2, (hd _).trans d3, (hd _).trans d4, (hd _).trans d5⟩, hq.cell 0, hq.cell 1, hq.cell 2, hq.cell 3, hq.cell 4, hq.cell 5⟩)
            have HVX := Lib.hid HV.out
            clear d0 d1 d2 d3 d4 d5 HV HPw qx
            obtain ⟨⟨x0, x1, x2, x3, x4, x5⟩, p0, p1, p2, p3, p4, p5⟩ := HSX.out _ (Below.refl _ _)
            have E1 : ∀ ww, (Op.equalIn 10000 44 (.agg #[.string x.ser.prod, .int .i64 x.ser.kind, .int .i64 x.ser.expiry, .int .i64 x.ser.strike]) (.agg #[.string p.ser.prod, .int .i64 p.ser.kind, .int .i64 p.ser.expiry, .int .i64 p.ser.strike])).run Try.prog ww = .ok (NM.seqB x.ser p.ser) ww := fun ww => ser_in x.ser p.ser ww
            cases hs : NM.seqB x.ser p.ser
            · rw [hs] at E1
              cases dn
              · have CM := Lib.hid (fun ww => CC.out x.ser ww)
                by_cases hc : 0 < EM.cmp x.ser p.ser
                · have HFX : Hid (PO.foldU l p (k + 1) = (rows ++ [p, x], true)) := Lib.hid (by rw [HFS.out]; unfold PO.stepR; rw [hs, if_neg (by simp), if_pos ⟨rfl, hc⟩])
                  generalize EM.cmp x.ser p.ser = cm at *
                  clear hs HFS
                  go_wp2_with fail
                  go_quiet (fail)
                  go_wp2_with fail
                  have HBw := Lib.hid (below_drewN (Below.refl wr.heap.size wr) nq).drew
                  go_region_held3 (fun ww => (ww.cell? ⟨b, off + k * 6, none⟩ = some (.string x.ser.prod) ∧ ww.cell? ⟨b, off + k * 6 + 1, none⟩ = some (.int .i64 x.ser.kind) ∧ ww.cell? ⟨b, off + k * 6 + 2, none⟩ = some (.int .i64 x.ser.expiry) ∧ ww.cell? ⟨b, off + k * 6 + 3, none⟩ = some (.int .i64 x.ser.strike) ∧ ww.cell? ⟨b, off + k * 6 + 4, none⟩ = some (.int .i64 x.lo) ∧ ww.cell? ⟨b, off + k * 6 + 5, none⟩ = some (.int .i64 x.sh)) ∧ (ww.cell? ⟨w.heap.size, 0, none⟩ = some (.string p.ser.prod) ∧ ww.cell? ⟨w.heap.size, 1, none⟩ = some (.int .i64 p.ser.kind) ∧ ww.cell? ⟨w.heap.size, 2, none⟩ = some (.int .i64 p.ser.expiry) ∧ ww.cell? ⟨w.heap.size, 3, none⟩ = some (.int .i64 p.ser.strike) ∧ ww.cell? ⟨w.heap.size, 4, none⟩ = some (.int .i64 p.lo) ∧ ww.cell? ⟨w.heap.size, 5, none⟩ = some (.int .i64 p.sh)))
                    (with_reducible exact HSX.out _ HBw.out)
                    ((go_at_call 49; refine (CM.out _).mono ?_; rintro e w3 ⟨rfl, b3⟩; replace HBw := Lib.hid (HBw.out.trans (b3.mono HBw.out.size)); clear b3))
                  all_goals (
                    have HBx := Lib.hid (HB.out.trans (HBw.out.mono HB.out.size))
                    have HOx := Lib.hid (HO.out.below HBw.out)
                    obtain ⟨⟨x0, x1, x2, x3, x4, x5⟩, p0, p1, p2, p3, p4, p5⟩ := HSX.out _ HBw.out
                    clear HSX HBw HO HB
                    generalize hrw : rows.map posV = rv at *
                    have HRV := Lib.hid hrw
                    clear hrw
                    go_wp2_with (at_builtin; refine wpList_pushR _ [.string p.ser.prod, .int .i64 p.ser.kind, .int .i64 p.ser.expiry, .int .i64 p.ser.strike, .int .i64 p.lo, .int .i64 p.sh] (posV_one [p] _ (by simp [posV])) w0.heap.size (rv) _ _ 42 46 6 56 _ Try.underlying42 info_pos rfl (by decide) rfl rfl rfl _ (by first | rfl | trivial) (by first | rfl | trivial) HOx.out ?ga ?gb HBx.out.size ?_)
                    case ga => first | omega | (simp; omega)
                    case gb => first | (simp only [maxLen]; omega) | (simp [maxLen]; omega)
                    intro v4 w4 o4 b4 _ _
                    have HB4 := Lib.hid (HBx.out.trans b4)
                    have HO4 := Lib.hid o4
                    obtain ⟨y0, y1, y2, y3, y4, y5⟩ : (w4.cell? ⟨b, off + k * 6, none⟩ = some (.string x.ser.prod) ∧ w4.cell? ⟨b, off + k * 6 + 1, none⟩ = some (.int .i64 x.ser.kind) ∧ w4.cell? ⟨b, off + k * 6 + 2, none⟩ = some (.int .i64 x.ser.expiry) ∧ w4.cell? ⟨b, off + k * 6 + 3, none⟩ = some (.int .i64 x.ser.strike) ∧ w4.cell? ⟨b, off + k * 6 + 4, none⟩ = some (.int .i64 x.lo) ∧ w4.cell? ⟨b, off + k * 6 + 5, none⟩ = some (.int .i64 x.sh)) := by
                      obtain ⟨b9, off9, x9, e9, hb9, HV9, qx9, d0, d1, d2, d3, d4, d5⟩ := poss_get (HI.out.below HB4.out) hlt
                      injection e9 with e9; injection e9 with e91 e92; subst e91 e92
                      obtain rfl : x9 = x := HV9.out.symm.trans HVX.out
                      exact ⟨d0, d1, d2, d3, d4, d5⟩
                    clear o4 b4 HOx HBx x0 x1 x2 x3 x4 x5 p0 p1 p2 p3 p4 p5
                    go_wp2_with (at_builtin; refine wpList_pushR _ [.string x.ser.prod, .int .i64 x.ser.kind, .int .i64 x.ser.expiry, .int .i64 x.ser.strike, .int .i64 x.lo, .int .i64 x.sh] (posV_one [x] _ (by simp [posV])) w0.heap.size (rv ++ [[.string p.ser.prod, .int .i64 p.ser.kind, .int .i64 p.ser.expiry, .int .i64 p.ser.strike, .int .i64 p.lo, .int .i64 p.sh]]) _ _ 42 46 6 56 _ Try.underlying42 info_pos rfl (by decide) rfl rfl rfl _ (by first | rfl | trivial) (by first | rfl | trivial) HO4.out ?ga ?gb HB4.out.size ?_)
                    case ga => first | omega | (simp; omega)
                    case gb => first | (simp only [maxLen]; omega) | (simp [maxLen]; omega)
                    intro v5 w5 o5 b5 _ _
                    have HB5 := Lib.hid (HB4.out.trans b5)
                    have HO5 : Hid (OwnR w5 w0.heap.size 46 6 v5 ((rows ++ [p, x]).map posV)) := Lib.hid (by rw [List.map_append, HRV.out]; simpa [posV] using o5)
                    clear o5 b5 HO4 HB4 y0 y1 y2 y3 y4 y5
                    go_wp2_with fail
                    go_roundw
                    case rel => exact ⟨k + 1, by omega, by go_num, ⟨_, _, rfl, HFX, HO5⟩, HB5⟩
                    case measure => simp [intOf]; omega)
                · have HFX : Hid (PO.foldU l p (k + 1) = (rows ++ [x], false)) := Lib.hid (by rw [HFS.out]; unfold PO.stepR; rw [hs, if_neg (by simp), if_neg (by simp; omega)])
                  have hcd : decide (0 < EM.cmp x.ser p.ser) = false := decide_eq_false hc
                  generalize EM.cmp x.ser p.ser = cm at *
                  clear hs HFS
                  go_wp2_with fail
                  go_quiet (fail)
                  go_wp2_with fail
                  have HBw := Lib.hid (below_drewN (Below.refl wr.heap.size wr) nq).drew
                  go_region_held3 (fun ww => (ww.cell? ⟨b, off + k * 6, none⟩ = some (.string x.ser.prod) ∧ ww.cell? ⟨b, off + k * 6 + 1, none⟩ = some (.int .i64 x.ser.kind) ∧ ww.cell? ⟨b, off + k * 6 + 2, none⟩ = some (.int .i64 x.ser.expiry) ∧ ww.cell? ⟨b, off + k * 6 + 3, none⟩ = some (.int .i64 x.ser.strike) ∧ ww.cell? ⟨b, off + k * 6 + 4, none⟩ = some (.int .i64 x.lo) ∧ ww.cell? ⟨b, off + k * 6 + 5, none⟩ = some (.int .i64 x.sh)) ∧ (ww.cell? ⟨w.heap.size, 0, none⟩ = some (.string p.ser.prod) ∧ ww.cell? ⟨w.heap.size, 1, none⟩ = some (.int .i64 p.ser.kind) ∧ ww.cell? ⟨w.heap.size, 2, none⟩ = some (.int .i64 p.ser.expiry) ∧ ww.cell? ⟨w.heap.size, 3, none⟩ = some (.int .i64 p.ser.strike) ∧ ww.cell? ⟨w.heap.size, 4, none⟩ = some (.int .i64 p.lo) ∧ ww.cell? ⟨w.heap.size, 5, none⟩ = some (.int .i64 p.sh)))
                    (with_reducible exact HSX.out _ HBw.out)
                    ((go_at_call 49; refine (CM.out _).mono ?_; rintro e w3 ⟨rfl, b3⟩; replace HBw := Lib.hid (HBw.out.trans (b3.mono HBw.out.size)); clear b3))
                  all_goals (
                    have HBx := Lib.hid (HB.out.trans (HBw.out.mono HB.out.size))
                    have HOx := Lib.hid (HO.out.below HBw.out)
                    obtain ⟨⟨x0, x1, x2, x3, x4, x5⟩, p0, p1, p2, p3, p4, p5⟩ := HSX.out _ HBw.out
                    clear HSX HBw HO HB
                    generalize hrw : rows.map posV = rv at *
                    have HRV := Lib.hid hrw
                    clear hrw
                    go_wp2_with (at_builtin; refine wpList_pushR _ [.string x.ser.prod, .int .i64 x.ser.kind, .int .i64 x.ser.expiry, .int .i64 x.ser.strike, .int .i64 x.lo, .int .i64 x.sh] (posV_one [x] _ (by simp [posV])) w0.heap.size (rv) _ _ 42 46 6 56 _ Try.underlying42 info_pos rfl (by decide) rfl rfl rfl _ (by first | rfl | trivial) (by first | rfl | trivial) HOx.out ?ga ?gb HBx.out.size ?_)
                    case ga => first | omega | (simp; omega)
                    case gb => first | (simp only [maxLen]; omega) | (simp [maxLen]; omega)
                    intro v5 w5 o5 b5 _ _
                    have HB5 := Lib.hid (HBx.out.trans b5)
                    have HO5 : Hid (OwnR w5 w0.heap.size 46 6 v5 ((rows ++ [x]).map posV)) := Lib.hid (by rw [List.map_append, HRV.out]; simpa [posV] using o5)
                    clear o5 b5 HOx HBx x0 x1 x2 x3 x4 x5 p0 p1 p2 p3 p4 p5
                    go_wp2_with fail
                    go_roundw
                    case rel => exact ⟨k + 1, by omega, by go_num, ⟨_, _, rfl, HFX, HO5⟩, HB5⟩
                    case measure => simp [intOf]; omega)
              · have HFX : Hid (PO.foldU l p (k + 1) = (rows ++ [x], true)) := Lib.hid (by rw [HFS.out]; unfold PO.stepR; rw [hs, if_neg (by simp), if_neg (by simp)])
                clear hs HFS HSX
                generalize hrw : rows.map posV = rv at *
                have HRV := Lib.hid hrw
                clear hrw
                go_wp2_with fail
                go_quiet (fail)
                go_wp2_with fail
                go_quiet (fail)
                go_wp2_with (at_builtin; refine wpList_pushR _ [.string x.ser.prod, .int .i64 x.ser.kind, .int .i64 x.ser.expiry, .int .i64 x.ser.strike, .int .i64 x.lo, .int .i64 x.sh] (posV_one [x] _ (by simp [posV])) w0.heap.size (rv) _ _ 42 46 6 56 _ Try.underlying42 info_pos rfl (by decide) rfl rfl rfl _ (by first | rfl | trivial) (by first | rfl | trivial) (HO.out.drewN _) ?ga ?gb (below_drewN HB.out _).size ?_)
                case ga => first | omega | (simp; omega)
                case gb => first | (simp only [maxLen]; omega) | (simp [maxLen]; omega)
                intro v5 w5 o5 b5 _ _
                have HB5 := Lib.hid ((below_drewN HB.out _).trans b5)
                have HO5 : Hid (OwnR w5 w0.heap.size 46 6 v5 ((rows ++ [x]).map posV)) := Lib.hid (by rw [List.map_append, HRV.out]; simpa [posV] using o5)
                clear o5 b5 HO HB x0 x1 x2 x3 x4 x5 p0 p1 p2 p3 p4 p5
                go_wp2_with fail
                go_roundw
                case rel => exact ⟨k + 1, by omega, by go_num, ⟨_, _, rfl, HFX, HO5⟩, HB5⟩
                case measure => simp [intOf]; omega
            · rw [hs] at E1
              have HFX : Hid (PO.foldU l p (k + 1) = (rows, dn)) := Lib.hid (by rw [HFS.out]; unfold PO.stepR; rw [hs, if_pos rfl])
              clear hs HFS HSX
              go_wp2_with fail
              go_quiet (fail)
              go_wp2_with fail
              go_roundw
              case rel => exact ⟨k + 1, by omega, by go_num, ⟨_, _, rfl, HFX, Lib.hid (HO.out.drewN _)⟩, Lib.hid (below_drewN HB.out _)⟩
              case measure => simp [intOf]; omega
          · obtain rfl : k = l.length := by omega
            have HKD := KD.out
            rw [HF.out] at HKD
            have HPw := HP0.out.below HB.out HP0.out.lt
            have p0 := HPw.cell 0
            have p1 := HPw.cell 1
            have p2 := HPw.cell 2
            have p3 := HPw.cell 3
            have p4 := HPw.cell 4
            have p5 := HPw.cell 5
            simp only [List.getElem?_toArray, List.getElem?_cons_zero, List.getElem?_cons_succ] at p0 p1 p2 p3 p4 p5
            have hpl := HPw.lt
            clear HPw
            cases dn
            · have HPL : Hid (rows ++ [p] = pl) := Lib.hid (by rw [← HKD]; rfl)
              clear HKD
              have hpll : pl.length = (rows.map posV).length + 1 := by rw [← HPL.out]; simp
              generalize hrw : rows.map posV = rv at *
              have HRV := Lib.hid hrw
              clear hrw
              go_wp2_with (at_builtin; refine wpList_pushR _ [.string p.ser.prod, .int .i64 p.ser.kind, .int .i64 p.ser.expiry, .int .i64 p.ser.strike, .int .i64 p.lo, .int .i64 p.sh] (posV_one [p] _ (by simp [posV])) w0.heap.size (rv) _ _ 42 46 6 56 _ Try.underlying42 info_pos rfl (by decide) rfl rfl rfl _ (by first | rfl | trivial) (by first | rfl | trivial) HO.out ?ga ?gb HB.out.size ?_)
              case ga => first | omega | (simp; omega)
              case gb => first | (simp only [maxLen]; omega) | (simp [maxLen]; omega)
              intro v5 w5 o5 b5 _ _
              have HB5 := Lib.hid (HB.out.trans b5)
              have HO5 : Hid (OwnR w5 w0.heap.size 46 6 v5 (pl.map posV)) := Lib.hid (by rw [← HPL.out, List.map_append, HRV.out]; simpa [posV] using o5)
              clear o5 b5 HO HB p0 p1 p2 p3 p4 p5 hpl
              obtain ⟨A5, k5, rfl, hR5, _⟩ := OwnR.recs HO5.out
              rw [List.length_map] at HO5 ⊢
              clear hR5
              by_cases hln : 128 < pl.length
              · obtain ⟨r1, r2⟩ := KL.out hln
                have HR1 := Lib.hid r1; have HR2 := Lib.hid r2
                clear r1 r2
                go_wp2_with fail
                go_ret2
                exact ⟨_, by rw [HR1.out] <;> rfl, by rw [HR2.out]; exact OwnR.nil _ _ _ _, HB0.out.trans (HB5.out.mono HB0.out.size)⟩
              · obtain ⟨r1, r2⟩ := KO.out hln
                have HR1 := Lib.hid r1; have HR2 := Lib.hid r2
                clear r1 r2
                go_wp2_with fail
                go_ret2
                exact ⟨_, by rw [HR1.out] <;> rfl, by rw [HR2.out]; exact HO5.out.lower HB0.out.size, HB0.out.trans (HB5.out.mono HB0.out.size)⟩
            · obtain rfl : rows = pl := by rw [← HKD]; rfl
              clear HKD
              obtain ⟨A5, k5, rfl, hR5, _⟩ := OwnR.recs HO.out
              rw [List.length_map] at HO ⊢
              clear hR5
              by_cases hln : 128 < rows.length
              · obtain ⟨r1, r2⟩ := KL.out hln
                have HR1 := Lib.hid r1; have HR2 := Lib.hid r2
                clear r1 r2
                go_wp2_with fail
                go_ret2
                exact ⟨_, by rw [HR1.out] <;> rfl, by rw [HR2.out]; exact OwnR.nil _ _ _ _, HB0.out.trans (HB.out.mono HB0.out.size)⟩
              · obtain ⟨r1, r2⟩ := KO.out hln
                have HR1 := Lib.hid r1; have HR2 := Lib.hid r2
                clear r1 r2
                go_wp2_with fail
                go_ret2
                exact ⟨_, by rw [HR1.out] <;> rfl, by rw [HR2.out]; exact HO.out.lower HB0.out.size, HB0.out.trans (HB.out.mono HB0.out.size)⟩
      · rw [z2] at hdz
        obtain rfl : dz = true := by simpa using hdz.symm
        clear hdz
        go_enter Try.func62, Try.ntmps62
        go_wp2_with fail
        generalize w.alloc (.cells #[.string p.ser.prod, .int .i64 p.ser.kind, .int .i64 p.ser.expiry, .int .i64 p.ser.strike, .int .i64 p.lo, .int .i64 p.sh] 46) = w0 at *
        go_loopw [6, 7, 8] (fun v d i wr => ∃ k : Nat, k ≤ l.length ∧ i = .int .i64 (k : Int) ∧ (∃ (rows : List PO.Pos) (dn : Bool), d = .bool dn ∧ Hid (PO.foldU l p k = (rows, dn)) ∧ Hid (OwnR wr w0.heap.size 46 6 v (rows.map posV))) ∧ Hid (Below w0.heap.size w0 wr)) (fun _ _ i _ => l.length - (intOf i).toNat)
        case atStart => exact ⟨0, by omega, rfl, ⟨[], true, rfl, KZ, Lib.hid (OwnR.nil _ _ _ _)⟩, Lib.hid (Below.refl _ _)⟩
        case round =>
          clear c0 c1 c2 c3 c4 c5
          obtain ⟨k, hk, rfl, ⟨rows, dn, rfl, HF, HO⟩, HB⟩ := hrel
          have hrl : (rows.map posV).length ≤ 2 * k := by have := KN.out k hk; rw [HF.out] at this; rw [List.length_map]; exact this
          by_cases hlt : k < l.length
          · obtain ⟨b, off, x, rfl, hb, HV, qx, d0, d1, d2, d3, d4, d5⟩ := poss_get (HI.out.below HB.out) hlt
            have HFS : Hid (PO.foldU l p (k + 1) = PO.stepR p (rows, dn) x) := Lib.hid (by rw [KF.out k hlt, HF.out, HV.out])
            have HPw := HP0.out.below HB.out HP0.out.lt
            have HSX : Hid (∀ ww, Below wr.heap.size wr ww → (ww.cell? ⟨b, off + k * 6, none⟩ = some (.string x.ser.prod) ∧ ww.cell? ⟨b, off + k * 6 + 1, none⟩ = some (.int .i64 x.ser.kind) ∧ ww.cell? ⟨b, off + k * 6 + 2, none⟩ = some (.int .i64 x.ser.expiry) ∧ ww.cell? ⟨b, off + k * 6 + 3, none⟩ = some (.int .i64 x.ser.strike) ∧ ww.cell? ⟨b, off + k * 6 + 4, none⟩ = some (.int .i64 x.lo) ∧ ww.cell? ⟨b, off + k * 6 + 5, none⟩ = some (.int .i64 x.sh)) ∧ (ww.cell? ⟨w.heap.size, 0, none⟩ = some (.string p.ser.prod) ∧ ww.cell? ⟨w.heap.size, 1, none⟩ = some (.int .i64 p.ser.kind) ∧ ww.cell? ⟨w.heap.size, 2, none⟩ = some (.int .i64 p.ser.expiry) ∧ ww.cell? ⟨w.heap.size, 3, none⟩ = some (.int .i64 p.ser.strike) ∧ ww.cell? ⟨w.heap.size, 4, none⟩ = some (.int .i64 p.lo) ∧ ww.cell? ⟨w.heap.size, 5, none⟩ = some (.int .i64 p.sh))) := Lib.hid (fun ww h => by
              have hd := fun o => h.cell (p := ⟨b, o, none⟩) hb
              have hq := HPw.below h HPw.lt
              exact ⟨⟨(hd _).trans d0, (hd _).trans d1, (hd _).trans d2, (hd _).trans d3, (hd _).trans d4, (hd _).trans d5⟩, hq.cell 0, hq.cell 1, hq.cell 2, hq.cell 3, hq.cell 4, hq.cell 5⟩)
            have HVX := Lib.hid HV.out
            clear d0 d1 d2 d3 d4 d5 HV HPw qx
            obtain ⟨⟨x0, x1, x2, x3, x4, x5⟩, p0, p1, p2, p3, p4, p5⟩ := HSX.out _ (Below.refl _ _)
            have E1 : ∀ ww, (Op.equalIn 10000 44 (.agg #[.string x.ser.prod, .int .i64 x.ser.kind, .int .i64 x.ser.expiry, .int .i64 x.ser.strike]) (.agg #[.string p.ser.prod, .int .i64 p.ser.kind, .int .i64 p.ser.expiry, .int .i64 p.ser.strike])).run Try.prog ww = .ok (NM.seqB x.ser p.ser) ww := fun ww => ser_in x.ser p.ser ww
            cases hs : NM.seqB x.ser p.ser
            · rw [hs] at E1
              cases dn
              · have CM := Lib.hid (fun ww => CC.out x.ser ww)
                by_cases hc : 0 < EM.cmp x.ser p.ser
                · have HFX : Hid (PO.foldU l p (k + 1) = (rows ++ [p, x], true)) := Lib.hid (by rw [HFS.out]; unfold PO.stepR; rw [hs, if_neg (by simp), if_pos ⟨rfl, hc⟩])
                  generalize EM.cmp x.ser p.ser = cm at *
                  clear hs HFS
                  go_wp2_with fail
                  go_quiet (fail)
                  go_wp2_with fail
                  have HBw := Lib.hid (below_drewN (Below.refl wr.heap.size wr) nq).drew
                  go_region_held3 (fun ww => (ww.cell? ⟨b, off + k * 6, none⟩ = some (.string x.ser.prod) ∧ ww.cell? ⟨b, off + k * 6 + 1, none⟩ = some (.int .i64 x.ser.kind) ∧ ww.cell? ⟨b, off + k * 6 + 2, none⟩ = some (.int .i64 x.ser.expiry) ∧ ww.cell? ⟨b, off + k * 6 + 3, none⟩ = some (.int .i64 x.ser.strike) ∧ ww.cell? ⟨b, off + k * 6 + 4, none⟩ = some (.int .i64 x.lo) ∧ ww.cell? ⟨b, off + k * 6 + 5, none⟩ = some (.int .i64 x.sh)) ∧ (ww.cell? ⟨w.heap.size, 0, none⟩ = some (.string p.ser.prod) ∧ ww.cell? ⟨w.heap.size, 1, none⟩ = some (.int .i64 p.ser.kind) ∧ ww.cell? ⟨w.heap.size, 2, none⟩ = some (.int .i64 p.ser.expiry) ∧ ww.cell? ⟨w.heap.size, 3, none⟩ = some (.int .i64 p.ser.strike) ∧ ww.cell? ⟨w.heap.size, 4, none⟩ = some (.int .i64 p.lo) ∧ ww.cell? ⟨w.heap.size, 5, none⟩ = some (.int .i64 p.sh)))
                    (with_reducible exact HSX.out _ HBw.out)
                    ((go_at_call 49; refine (CM.out _).mono ?_; rintro e w3 ⟨rfl, b3⟩; replace HBw := Lib.hid (HBw.out.trans (b3.mono HBw.out.size)); clear b3))
                  all_goals (
                    have HBx := Lib.hid (HB.out.trans (HBw.out.mono HB.out.size))
                    have HOx := Lib.hid (HO.out.below HBw.out)
                    obtain ⟨⟨x0, x1, x2, x3, x4, x5⟩, p0, p1, p2, p3, p4, p5⟩ := HSX.out _ HBw.out
                    clear HSX HBw HO HB
                    generalize hrw : rows.map posV = rv at *
                    have HRV := Lib.hid hrw
                    clear hrw
                    go_wp2_with (at_builtin; refine wpList_pushR _ [.string p.ser.prod, .int .i64 p.ser.kind, .int .i64 p.ser.expiry, .int .i64 p.ser.strike, .int .i64 p.lo, .int .i64 p.sh] (posV_one [p] _ (by simp [posV])) w0.heap.size (rv) _ _ 42 46 6 56 _ Try.underlying42 info_pos rfl (by decide) rfl rfl rfl _ (by first | rfl | trivial) (by first | rfl | trivial) HOx.out ?ga ?gb HBx.out.size ?_)
                    case ga => first | omega | (simp; omega)
                    case gb => first | (simp only [maxLen]; omega) | (simp [maxLen]; omega)
                    intro v4 w4 o4 b4 _ _
                    have HB4 := Lib.hid (HBx.out.trans b4)
                    have HO4 := Lib.hid o4
                    obtain ⟨y0, y1, y2, y3, y4, y5⟩ : (w4.cell? ⟨b, off + k * 6, none⟩ = some (.string x.ser.prod) ∧ w4.cell? ⟨b, off + k * 6 + 1, none⟩ = some (.int .i64 x.ser.kind) ∧ w4.cell? ⟨b, off + k * 6 + 2, none⟩ = some (.int .i64 x.ser.expiry) ∧ w4.cell? ⟨b, off + k * 6 + 3, none⟩ = some (.int .i64 x.ser.strike) ∧ w4.cell? ⟨b, off + k * 6 + 4, none⟩ = some (.int .i64 x.lo) ∧ w4.cell? ⟨b, off + k * 6 + 5, none⟩ = some (.int .i64 x.sh)) := by
                      obtain ⟨b9, off9, x9, e9, hb9, HV9, qx9, d0, d1, d2, d3, d4, d5⟩ := poss_get (HI.out.below HB4.out) hlt
                      injection e9 with e9; injection e9 with e91 e92; subst e91 e92
                      obtain rfl : x9 = x := HV9.out.symm.trans HVX.out
                      exact ⟨d0, d1, d2, d3, d4, d5⟩
                    clear o4 b4 HOx HBx x0 x1 x2 x3 x4 x5 p0 p1 p2 p3 p4 p5
                    go_wp2_with (at_builtin; refine wpList_pushR _ [.string x.ser.prod, .int .i64 x.ser.kind, .int .i64 x.ser.expiry, .int .i64 x.ser.strike, .int .i64 x.lo, .int .i64 x.sh] (posV_one [x] _ (by simp [posV])) w0.heap.size (rv ++ [[.string p.ser.prod, .int .i64 p.ser.kind, .int .i64 p.ser.expiry, .int .i64 p.ser.strike, .int .i64 p.lo, .int .i64 p.sh]]) _ _ 42 46 6 56 _ Try.underlying42 info_pos rfl (by decide) rfl rfl rfl _ (by first | rfl | trivial) (by first | rfl | trivial) HO4.out ?ga ?gb HB4.out.size ?_)
                    case ga => first | omega | (simp; omega)
                    case gb => first | (simp only [maxLen]; omega) | (simp [maxLen]; omega)
                    intro v5 w5 o5 b5 _ _
                    have HB5 := Lib.hid (HB4.out.trans b5)
                    have HO5 : Hid (OwnR w5 w0.heap.size 46 6 v5 ((rows ++ [p, x]).map posV)) := Lib.hid (by rw [List.map_append, HRV.out]; simpa [posV] using o5)
                    clear o5 b5 HO4 HB4 y0 y1 y2 y3 y4 y5
                    go_wp2_with fail
                    go_roundw
                    case rel => exact ⟨k + 1, by omega, by go_num, ⟨_, _, rfl, HFX, HO5⟩, HB5⟩
                    case measure => simp [intOf]; omega)
                · have HFX : Hid (PO.foldU l p (k + 1) = (rows ++ [x], false)) := Lib.hid (by rw [HFS.out]; unfold PO.stepR; rw [hs, if_neg (by simp), if_neg (by simp; omega)])
                  have hcd : decide (0 < EM.cmp x.ser p.ser) = false := decide_eq_false hc
                  generalize EM.cmp x.ser p.ser = cm at *
                  clear hs HFS
                  go_wp2_with fail
                  go_quiet (fail)
                  go_wp2_with fail
                  have HBw := Lib.hid (below_drewN (Below.refl wr.heap.size wr) nq).drew
                  go_region_held3 (fun ww => (ww.cell? ⟨b, off + k * 6, none⟩ = some (.string x.ser.prod) ∧ ww.cell? ⟨b, off + k * 6 + 1, none⟩ = some (.int .i64 x.ser.kind) ∧ ww.cell? ⟨b, off + k * 6 + 2, none⟩ = some (.int .i64 x.ser.expiry) ∧ ww.cell? ⟨b, off + k * 6 + 3, none⟩ = some (.int .i64 x.ser.strike) ∧ ww.cell? ⟨b, off + k * 6 + 4, none⟩ = some (.int .i64 x.lo) ∧ ww.cell? ⟨b, off + k * 6 + 5, none⟩ = some (.int .i64 x.sh)) ∧ (ww.cell? ⟨w.heap.size, 0, none⟩ = some (.string p.ser.prod) ∧ ww.cell? ⟨w.heap.size, 1, none⟩ = some (.int .i64 p.ser.kind) ∧ ww.cell? ⟨w.heap.size, 2, none⟩ = some (.int .i64 p.ser.expiry) ∧ ww.cell? ⟨w.heap.size, 3, none⟩ = some (.int .i64 p.ser.strike) ∧ ww.cell? ⟨w.heap.size, 4, none⟩ = some (.int .i64 p.lo) ∧ ww.cell? ⟨w.heap.size, 5, none⟩ = some (.int .i64 p.sh)))
                    (with_reducible exact HSX.out _ HBw.out)
                    ((go_at_call 49; refine (CM.out _).mono ?_; rintro e w3 ⟨rfl, b3⟩; replace HBw := Lib.hid (HBw.out.trans (b3.mono HBw.out.size)); clear b3))
                  all_goals (
                    have HBx := Lib.hid (HB.out.trans (HBw.out.mono HB.out.size))
                    have HOx := Lib.hid (HO.out.below HBw.out)
                    obtain ⟨⟨x0, x1, x2, x3, x4, x5⟩, p0, p1, p2, p3, p4, p5⟩ := HSX.out _ HBw.out
                    clear HSX HBw HO HB
                    generalize hrw : rows.map posV = rv at *
                    have HRV := Lib.hid hrw
                    clear hrw
                    go_wp2_with (at_builtin; refine wpList_pushR _ [.string x.ser.prod, .int .i64 x.ser.kind, .int .i64 x.ser.expiry, .int .i64 x.ser.strike, .int .i64 x.lo, .int .i64 x.sh] (posV_one [x] _ (by simp [posV])) w0.heap.size (rv) _ _ 42 46 6 56 _ Try.underlying42 info_pos rfl (by decide) rfl rfl rfl _ (by first | rfl | trivial) (by first | rfl | trivial) HOx.out ?ga ?gb HBx.out.size ?_)
                    case ga => first | omega | (simp; omega)
                    case gb => first | (simp only [maxLen]; omega) | (simp [maxLen]; omega)
                    intro v5 w5 o5 b5 _ _
                    have HB5 := Lib.hid (HBx.out.trans b5)
                    have HO5 : Hid (OwnR w5 w0.heap.size 46 6 v5 ((rows ++ [x]).map posV)) := Lib.hid (by rw [List.map_append, HRV.out]; simpa [posV] using o5)
                    clear o5 b5 HOx HBx x0 x1 x2 x3 x4 x5 p0 p1 p2 p3 p4 p5
                    go_wp2_with fail
                    go_roundw
                    case rel => exact ⟨k + 1, by omega, by go_num, ⟨_, _, rfl, HFX, HO5⟩, HB5⟩
                    case measure => simp [intOf]; omega)
              · have HFX : Hid (PO.foldU l p (k + 1) = (rows ++ [x], true)) := Lib.hid (by rw [HFS.out]; unfold PO.stepR; rw [hs, if_neg (by simp), if_neg (by simp)])
                clear hs HFS HSX
                generalize hrw : rows.map posV = rv at *
                have HRV := Lib.hid hrw
                clear hrw
                go_wp2_with fail
                go_quiet (fail)
                go_wp2_with fail
                go_quiet (fail)
                go_wp2_with (at_builtin; refine wpList_pushR _ [.string x.ser.prod, .int .i64 x.ser.kind, .int .i64 x.ser.expiry, .int .i64 x.ser.strike, .int .i64 x.lo, .int .i64 x.sh] (posV_one [x] _ (by simp [posV])) w0.heap.size (rv) _ _ 42 46 6 56 _ Try.underlying42 info_pos rfl (by decide) rfl rfl rfl _ (by first | rfl | trivial) (by first | rfl | trivial) (HO.out.drewN _) ?ga ?gb (below_drewN HB.out _).size ?_)
                case ga => first | omega | (simp; omega)
                case gb => first | (simp only [maxLen]; omega) | (simp [maxLen]; omega)
                intro v5 w5 o5 b5 _ _
                have HB5 := Lib.hid ((below_drewN HB.out _).trans b5)
                have HO5 : Hid (OwnR w5 w0.heap.size 46 6 v5 ((rows ++ [x]).map posV)) := Lib.hid (by rw [List.map_append, HRV.out]; simpa [posV] using o5)
                clear o5 b5 HO HB x0 x1 x2 x3 x4 x5 p0 p1 p2 p3 p4 p5
                go_wp2_with fail
                go_roundw
                case rel => exact ⟨k + 1, by omega, by go_num, ⟨_, _, rfl, HFX, HO5⟩, HB5⟩
                case measure => simp [intOf]; omega
            · rw [hs] at E1
              have HFX : Hid (PO.foldU l p (k + 1) = (rows, dn)) := Lib.hid (by rw [HFS.out]; unfold PO.stepR; rw [hs, if_pos rfl])
              clear hs HFS HSX
              go_wp2_with fail
              go_quiet (fail)
              go_wp2_with fail
              go_roundw
              case rel => exact ⟨k + 1, by omega, by go_num, ⟨_, _, rfl, HFX, Lib.hid (HO.out.drewN _)⟩, Lib.hid (below_drewN HB.out _)⟩
              case measure => simp [intOf]; omega
          · obtain rfl : k = l.length := by omega
            have HKD := KD.out
            rw [HF.out] at HKD
            have HPw := HP0.out.below HB.out HP0.out.lt
            have p0 := HPw.cell 0
            have p1 := HPw.cell 1
            have p2 := HPw.cell 2
            have p3 := HPw.cell 3
            have p4 := HPw.cell 4
            have p5 := HPw.cell 5
            simp only [List.getElem?_toArray, List.getElem?_cons_zero, List.getElem?_cons_succ] at p0 p1 p2 p3 p4 p5
            have hpl := HPw.lt
            clear HPw
            cases dn
            · have HPL : Hid (rows ++ [p] = pl) := Lib.hid (by rw [← HKD]; rfl)
              clear HKD
              have hpll : pl.length = (rows.map posV).length + 1 := by rw [← HPL.out]; simp
              generalize hrw : rows.map posV = rv at *
              have HRV := Lib.hid hrw
              clear hrw
              go_wp2_with (at_builtin; refine wpList_pushR _ [.string p.ser.prod, .int .i64 p.ser.kind, .int .i64 p.ser.expiry, .int .i64 p.ser.strike, .int .i64 p.lo, .int .i64 p.sh] (posV_one [p] _ (by simp [posV])) w0.heap.size (rv) _ _ 42 46 6 56 _ Try.underlying42 info_pos rfl (by decide) rfl rfl rfl _ (by first | rfl | trivial) (by first | rfl | trivial) HO.out ?ga ?gb HB.out.size ?_)
              case ga => first | omega | (simp; omega)
              case gb => first | (simp only [maxLen]; omega) | (simp [maxLen]; omega)
              intro v5 w5 o5 b5 _ _
              have HB5 := Lib.hid (HB.out.trans b5)
              have HO5 : Hid (OwnR w5 w0.heap.size 46 6 v5 (pl.map posV)) := Lib.hid (by rw [← HPL.out, List.map_append, HRV.out]; simpa [posV] using o5)
              clear o5 b5 HO HB p0 p1 p2 p3 p4 p5 hpl
              obtain ⟨A5, k5, rfl, hR5, _⟩ := OwnR.recs HO5.out
              rw [List.length_map] at HO5 ⊢
              clear hR5
              by_cases hln : 128 < pl.length
              · obtain ⟨r1, r2⟩ := KL.out hln
                have HR1 := Lib.hid r1; have HR2 := Lib.hid r2
                clear r1 r2
                go_wp2_with fail
                go_ret2
                exact ⟨_, by rw [HR1.out] <;> rfl, by rw [HR2.out]; exact OwnR.nil _ _ _ _, HB0.out.trans (HB5.out.mono HB0.out.size)⟩
              · obtain ⟨r1, r2⟩ := KO.out hln
                have HR1 := Lib.hid r1; have HR2 := Lib.hid r2
                clear r1 r2
                go_wp2_with fail
                go_ret2
                exact ⟨_, by rw [HR1.out] <;> rfl, by rw [HR2.out]; exact HO5.out.lower HB0.out.size, HB0.out.trans (HB5.out.mono HB0.out.size)⟩
            · obtain rfl : rows = pl := by rw [← HKD]; rfl
              clear HKD
              obtain ⟨A5, k5, rfl, hR5, _⟩ := OwnR.recs HO.out
              rw [List.length_map] at HO ⊢
              clear hR5
              by_cases hln : 128 < rows.length
              · obtain ⟨r1, r2⟩ := KL.out hln
                have HR1 := Lib.hid r1; have HR2 := Lib.hid r2
                clear r1 r2
                go_wp2_with fail
                go_ret2
                exact ⟨_, by rw [HR1.out] <;> rfl, by rw [HR2.out]; exact OwnR.nil _ _ _ _, HB0.out.trans (HB.out.mono HB0.out.size)⟩
              · obtain ⟨r1, r2⟩ := KO.out hln
                have HR1 := Lib.hid r1; have HR2 := Lib.hid r2
                clear r1 r2
                go_wp2_with fail
                go_ret2
                exact ⟨_, by rw [HR1.out] <;> rfl, by rw [HR2.out]; exact HO.out.lower HB0.out.size, HB0.out.trans (HB.out.mono HB0.out.size)⟩
  exact key _ rfl
end Go.Proofs.Ytdhkflmodcgooaa

/- Contracts of layer 15's reference: Apply, its mathematics. -/
namespace PO
theorem apply_put {l : List Pos} {kind : Int} {s : EM.Ser} {qty closes : Int} (hc : checkE l = 0) (hl : legE kind qty closes = 0) (ho : ¬ othS (findP l s) qty < cloS kind qty closes (findP l s)) :
    applyE l kind s qty closes = putE l (newP l kind s qty closes) ∧ applyL l kind s qty closes = putR l (newP l kind s qty closes) := by
  obtain ⟨_, _, hg⟩ := check_good hc
  have hf := find_lots hg s
  obtain ⟨_, k1, k2⟩ := clo_ok hg hl s
  have key : applyE l kind s qty closes = putE l (newP l kind s qty closes) := by
    unfold applyE putE
    rw [if_neg (by simp [hc]), if_neg (by simp [hl])]
    have hi : (1048576 < (newP l kind s qty closes).lo ∨ 1048576 < (newP l kind s qty closes).sh) ↔ 1048576 < ownS (findP l s) qty + (absI qty - cloS kind qty closes (findP l s)) := by
      unfold newP chg ownS
      split
      · show (1048576 < (findP l s).lo - _ ∨ 1048576 < (findP l s).sh + _) ↔ _
        omega
      · show (1048576 < (findP l s).lo + _ ∨ 1048576 < (findP l s).sh - _) ↔ _
        omega
    by_cases h : 1048576 < ownS (findP l s) qty + (absI qty - cloS kind qty closes (findP l s))
    · have e : chgE (findP l s) qty (cloS kind qty closes (findP l s)) = 18 := by unfold chgE; rw [if_neg ho, if_pos h]
      rw [e, if_pos (by decide), if_pos (hi.2 h)]
    · have e : chgE (findP l s) qty (cloS kind qty closes (findP l s)) = 0 := by unfold chgE; rw [if_neg ho, if_neg h]
      rw [e, if_neg (by decide), if_neg (fun g => h (hi.1 g))]
  exact ⟨key, by unfold applyL putR; rw [key]⟩
theorem apply_open {l : List Pos} {kind : Int} {s : EM.Ser} {qty closes : Int} (hc : checkE l = 0) (hl : legE kind qty closes = 0) (ho : othS (findP l s) qty < cloS kind qty closes (findP l s)) :
    applyE l kind s qty closes = 30 ∧ applyL l kind s qty closes = [] := by
  have e : chgE (findP l s) qty (cloS kind qty closes (findP l s)) = 30 := by unfold chgE; rw [if_pos ho]
  have e2 : applyE l kind s qty closes = 30 := by unfold applyE; rw [if_neg (by simp [hc]), if_neg (by simp [hl]), e]; rfl
  exact ⟨e2, by unfold applyL; rw [e2]; rfl⟩
theorem apply_check {l : List Pos} {kind : Int} {s : EM.Ser} {qty closes : Int} (hc : ¬ checkE l = 0) : applyE l kind s qty closes = checkE l ∧ applyL l kind s qty closes = [] := by
  have e : applyE l kind s qty closes = checkE l := by unfold applyE; rw [if_pos hc]
  exact ⟨e, by unfold applyL; rw [e, if_neg hc]⟩
theorem apply_leg {l : List Pos} {kind : Int} {s : EM.Ser} {qty closes : Int} (hc : checkE l = 0) (hl : ¬ legE kind qty closes = 0) : applyE l kind s qty closes = legE kind qty closes ∧ applyL l kind s qty closes = [] := by
  have e : applyE l kind s qty closes = legE kind qty closes := by unfold applyE; rw [if_neg (by simp [hc]), if_pos hl]
  exact ⟨e, by unfold applyL; rw [e, if_neg hl]⟩
theorem leg_parts {kind qty closes : Int} (h : legE kind qty closes = 0) : (1 ≤ kind ∧ kind ≤ 3) ∧ ¬ (qty = 0 ∨ qty < -1048576 ∨ 1048576 < qty) ∧ ¬ (kind = 3 ∧ (closes < 0 ∨ absI qty < closes)) := by
  unfold legE at h
  split at h
  · cases h
  rename_i g1
  split at h
  · cases h
  rename_i g2
  split at h
  · cases h
  rename_i g3
  exact ⟨Classical.not_not.1 g1, g2, g3⟩
end PO
namespace Go.Proofs.Ytdhkflmodcgooaa
open Go.RowKit Go.Recs
set_option linter.unusedVariables false
set_option linter.unusedSimpArgs false
end Go.Proofs.Ytdhkflmodcgooaa
