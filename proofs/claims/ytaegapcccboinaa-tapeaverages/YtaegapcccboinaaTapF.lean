/- Contracts of layer 17: ticks compared, Same; the examples. -/
import Derived.Test.YtaegapcccboinaaTapE
import Derived.Deep.RegionHeld3
namespace Go.Proofs.Ytaegapcccboinaa
open Go.RowKit Go.Recs
set_option linter.unusedVariables false
set_option linter.unusedSimpArgs false
def teq (x y : TP.Tick) : Bool := (x.time == y.time) && ((x.qty == y.qty) && (x.price == y.price))
theorem teq_iff {x y : TP.Tick} : teq x y = true ↔ x = y := by
  constructor
  · intro h
    unfold teq at h
    simp only [Bool.and_eq_true, beq_iff_eq] at h
    cases x; cases y
    simp only at h
    rw [h.1, h.2.1, h.2.2]
  · rintro rfl
    simp [teq]
theorem tick_in (x y : TP.Tick) (w : World) : (Op.equalIn 10000 72 (tickA x) (tickA y)).run Try.prog w = .ok (teq x y) w := by
  have u3 := Try.underlying3
  have a3 := Try.isAgg3
  have z3 := Try.sizeOf3
  have hS : Try.prog.underlying 72 = some (.struct (Try.prog.fieldsOf 72)) := by kernel_rfl
  have hp : Try.prog.stoodInHeld 72 = false := by kernel_rfl
  rw [show (10000 : Nat) = 9999 + 1 from rfl, run_equalIn_agg w 9999 72 _ _ hS hp]
  simp only [Program.fieldsOf, Try.underlying72]
  unfold teq
  go_simp
  by_cases h1 : x.time = y.time <;> by_cases h2 : x.qty = y.qty <;> by_cases h3 : x.price = y.price <;> simp [h1, h2, h3]
theorem tick_guard : Try.prog.eqGuardType Try.prog.depth 72 = false := by kernel_rfl
set_option maxHeartbeats 4000000 in
theorem rsame17_any (A B : Option Addr) (l : List TP.Tick) (n c m d : Nat) (hn : n = l.length) (hm : m = l.length) (w : World) (hI : Ticks w A l) (hJ : Ticks w B l) :
    Calls Try.prog 17 #[.slice A n c, .slice B m d] w fun e w' => e = .returned (.bool true) ∧ ∃ k, w' = w.drewN k := by
  subst hn hm
  have hlen := hI.len
  have gl := tick_guard
  go_enter Try.func17, Try.ntmps17
  go_wp2_with fail
  go_loopw [5] (fun i wr => ∃ k : Nat, k ≤ l.length ∧ i = .int .i64 (k : Int) ∧ ∃ nd, wr = w.drewN nd) (fun i _ => l.length - (intOf i).toNat)
  case atStart => exact ⟨0, by omega, rfl, 0, rfl⟩
  case round =>
    obtain ⟨k, hk, rfl, nd, rfl⟩ := hrel
    by_cases hlt : k < l.length
    · obtain ⟨b, off, x, rfl, hb, HV, q, d0, d1, d2⟩ := ticks_get hI hlt
      obtain ⟨b', off', x', rfl, hb', HV', q', g0, g1, g2⟩ := ticks_get hJ hlt
      obtain rfl : x = x' := HV.out.symm.trans HV'.out
      have HI := Lib.hid hI; have HJ := Lib.hid hJ
      have E1 : ∀ ww, (Op.equalIn 10000 72 (tickA x) (tickA x)).run Try.prog ww = .ok true ww := fun ww => by rw [tick_in, teq_iff.2 rfl]
      clear q q' HV HV' hI hJ
      go_wp2_with fail
      go_quiet (fail)
      go_wp2_with fail
      go_roundw
      case rel => exact ⟨k + 1, by omega, by go_num, by first | exact ⟨nd, rfl⟩ | exact ⟨_, rfl⟩ | exact ⟨nd + 1, rfl⟩⟩
      case measure => simp [intOf]; omega
    · obtain rfl : k = l.length := by omega
      go_wp2_with fail
      go_ret
      exact ⟨rfl, nd, rfl⟩
/-- the page's ticks -/
def tapX : List TP.Tick := [⟨9, 2, 10⟩, ⟨10, 1, 13⟩]
def tapY : List TP.Tick := [⟨10, 1, 13⟩]
theorem tap_v1 : TP.vwN tapX 1 5 = 11 ∧ TP.vwE tapX 1 5 = 0 := by decide
theorem tap_v2 : TP.vwN tapX 5 1 = 10 ∧ TP.vwE tapX 5 1 = 0 := by decide
theorem tap_v3 : TP.vwN tapX 4 5 = 12 ∧ TP.vwE tapX 4 5 = 0 := by decide
theorem tap_r : TP.lowN tapX = 10 ∧ TP.highN tapX = 13 ∧ decide (0 < tapX.length) = true := by decide
theorem tap_w : TP.win tapX 10 20 = tapY := rfl
theorem small_tick {a b c : Int} (h : (0 ≤ a ∧ a ≤ 1000) ∧ (0 ≤ b ∧ b ≤ 1000) ∧ 0 ≤ c ∧ c ≤ 1000) : tickQ ⟨a, b, c⟩ := ⟨⟨by show _ ≤ a; omega, by show a ≤ _; omega⟩, ⟨by show _ ≤ b; omega, by show b ≤ _; omega⟩, ⟨by show _ ≤ c; omega, by show c ≤ _; omega⟩⟩
theorem tap_lit (W : World) : Ticks (W.alloc (.cells #[.int .i64 9, .int .i64 2, .int .i64 10, .int .i64 10, .int .i64 1, .int .i64 13] 72)) (some ⟨W.heap.size, 0, none⟩) tapX := by
  obtain ⟨A', cap, e, hr, _⟩ := OwnR.recs (OwnR.lit W W.heap.size 72 3 (tapX.map tickV) (by simp [tapX, tickV]) (Nat.le_refl _) (by simp [tapX, maxLen]))
  injection e with e
  subst e
  refine ⟨hr, ?_⟩
  intro x hx
  simp only [tapX, List.mem_cons, List.not_mem_nil, or_false] at hx
  rcases hx with rfl | rfl <;> exact small_tick (by decide)
set_option maxHeartbeats 8000000 in
set_option maxRecDepth 100000 in
theorem goes17_any (w : World) : Calls Try.prog 14 #[] w fun e w' => e = .returned (.bool true) ∧ Below w.heap.size w w' := by
  have V1 := Lib.hid (fun ww h => vwap_any (some ⟨w.heap.size, 0, none⟩) tapX 2 2 1 5 rfl ww h)
  rw [tap_v1.1, tap_v1.2] at V1
  have V2 := Lib.hid (fun ww h => vwap_any (some ⟨w.heap.size, 0, none⟩) tapX 2 2 5 1 rfl ww h)
  rw [tap_v2.1, tap_v2.2] at V2
  have V3 := Lib.hid (fun ww h => vwap_any (some ⟨w.heap.size, 0, none⟩) tapX 2 2 4 5 rfl ww h)
  rw [tap_v3.1, tap_v3.2] at V3
  have R := Lib.hid (fun ww h => range_any (some ⟨w.heap.size, 0, none⟩) tapX 2 2 rfl ww h)
  rw [tap_r.1, tap_r.2.1, tap_r.2.2] at R
  have W := Lib.hid (fun ww h => window_any (some ⟨w.heap.size, 0, none⟩) tapX 2 2 10 20 rfl (by decide) ww h)
  rw [tap_w] at W
  have HY : Hid (∀ ww, Ticks ww (some ⟨w.heap.size, 0, none⟩) tapX → Ticks ww (some ⟨w.heap.size, 0 + 1 * 3, none⟩) tapY) := Lib.hid (fun ww h => TR.drop_ h 1)
  have HS := Lib.hid (fun B n c d ww h1 h2 h3 => rsame17_any B (some ⟨w.heap.size, 3, none⟩) tapY n c 1 d h1 rfl ww h2 h3)
  have HT := Lib.hid (tap_lit w)
  have HB0 := Lib.hid (below_al (Below.refl w.heap.size w) (.cells #[.int .i64 9, .int .i64 2, .int .i64 10, .int .i64 10, .int .i64 1, .int .i64 13] 72))
  have HL : Hid (tapY.length = 1 ∧ ∀ x ∈ tapY, tickQ x) := Lib.hid ⟨rfl, fun x hx => by
    simp only [tapY, List.mem_cons, List.not_mem_nil, or_false] at hx
    subst hx; exact small_tick (by decide)⟩
  generalize tapX = lx at *
  generalize tapY = ly at *
  go_enter Try.func14, Try.ntmps14
  go_wp2_with fail
  refine (V1.out _ HT.out).mono ?_
  rintro e w1 ⟨rfl, b1⟩
  have HB1 := Lib.hid (HB0.out.trans (b1.mono HB0.out.size))
  have HT1 := Lib.hid (HT.out.below b1)
  clear b1
  go_wp2_with fail
  refine (V2.out _ HT1.out).mono ?_
  rintro e w2 ⟨rfl, b2⟩
  have HB2 := Lib.hid (HB1.out.trans (b2.mono HB1.out.size))
  have HT2 := Lib.hid (HT1.out.below b2)
  clear b2
  go_wp2_with fail
  refine (V3.out _ HT2.out).mono ?_
  rintro e w3 ⟨rfl, b3⟩
  have HB3 := Lib.hid (HB2.out.trans (b3.mono HB2.out.size))
  have HT3 := Lib.hid (HT2.out.below b3)
  clear b3
  go_wp2_with fail
  refine (R.out _ HT3.out).mono ?_
  rintro e w4 ⟨rfl, b4⟩
  have HB4 := Lib.hid (HB3.out.trans (b4.mono HB3.out.size))
  have HT4 := Lib.hid (HT3.out.below b4)
  clear b4
  have HBw : Hid (Below w4.heap.size w4 w4.drew) := Lib.hid (Below.refl _ _).drew
  clear V1 V2 V3 R HB0 HB1 HB2 HB3 HT HT1 HT2 HT3
  go_wp2_with fail
  go_region_held3 (fun _ => True) (trivial)
    (first
      | (go_at_call 20; refine (W.out _ (HT4.out.below HBw.out)).mono ?_; rintro e w6 ⟨v, rfl, ho, b6⟩; obtain ⟨A6, c6, rfl, ht, hc⟩ := OwnT.tr (f := tickV) (Q := tickQ) ho HL.out.2; replace HBw := Lib.hid (HBw.out.trans (b6.mono HBw.out.size)); have HV := Lib.hid ht; clear b6 ho hc ht)
      | (go_at_call 17; refine (HS.out _ _ _ _ _ (by first | rfl | trivial) HV.out (HY.out _ (HT4.out.below HBw.out))).mono ?_; rintro e w6 ⟨rfl, nq, rfl⟩; replace HBw := Lib.hid (below_drewN HBw.out nq)))
  all_goals (
    have HBF := Lib.hid (HB4.out.trans (HBw.out.mono HB4.out.size))
    clear HBw HS HY W
    go_wp2_with fail
    go_ret
    exact ⟨rfl, HBF.out⟩)
end Go.Proofs.Ytaegapcccboinaa
