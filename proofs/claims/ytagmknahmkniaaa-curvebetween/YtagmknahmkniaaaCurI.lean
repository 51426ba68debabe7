/- Contracts of layer 19: two equal curves; the page's example. -/
import Derived.Test.YtagmknahmkniaaaCurG
namespace Go.Proofs.Ytagmknahmkniaaa
open Go.RowKit Go.Recs
set_option linter.unusedVariables false
set_option linter.unusedSimpArgs false
set_option maxHeartbeats 4000000 in
theorem usame_any (A B : Option Addr) (l : List UM.Pt) (n c m d : Nat) (hn : n = l.length) (hm : m = l.length) (w : World) (hI : Pts w A l) (hJ : Pts w B l) :
    Calls Try.prog 14 #[.slice A n c, .slice B m d] w fun e w' => e = .returned (.bool true) ∧ ∃ k, w' = w.drewN k := by
  subst hn hm
  have hlen := hI.len
  have gl := pt_guard
  go_enter Try.func14, Try.ntmps14
  go_wp2_with fail
  go_loopw [5] (fun i wr => ∃ k : Nat, k ≤ l.length ∧ i = .int .i64 (k : Int) ∧ ∃ nd, wr = w.drewN nd) (fun i _ => l.length - (intOf i).toNat)
  case atStart => exact ⟨0, by omega, rfl, 0, rfl⟩
  case round =>
    obtain ⟨k, hk, rfl, nd, rfl⟩ := hrel
    by_cases hlt : k < l.length
    · obtain ⟨b, off, x, rfl, hb, HV, q, d0, d1, d2⟩ := pts_get hI hlt
      obtain ⟨b', off', x', rfl, hb', HV', q', g0, g1, g2⟩ := pts_get hJ hlt
      obtain rfl : x = x' := HV.out.symm.trans HV'.out
      have HI := Lib.hid hI; have HJ := Lib.hid hJ
      have E1 : ∀ ww, (Op.equalIn 10000 44 (ptA x) (ptA x)).run Try.prog ww = .ok true ww := fun ww => by rw [pt_in, pteq_is, decide_eq_true rfl]
      clear q q' HV HV' hI hJ
      go_wp2_with fail
      go_quiet (fail)
      go_wp2_with fail
      go_roundw
      case rel => exact ⟨k + 1, by omega, by go_num, by first | exact ⟨nd, rfl⟩ | exact ⟨_, rfl⟩ | exact ⟨nd + 1, rfl⟩⟩
      case measure => simp [intOf]; omega
    · obtain rfl : k = l.length := by omega
      go_wp2_with fail
      go_ret
      exact ⟨rfl, nd, rfl⟩
/-- the page's points -/
def crvX : List UM.Pt := [⟨10, 100, true⟩, ⟨15, 0, false⟩, ⟨20, 121, true⟩]
def crvY : List UM.Pt := [⟨10, 100, true⟩, ⟨15, 110, true⟩, ⟨20, 121, true⟩]
theorem crv_a : UM.atN crvX 5 5 = 100 ∧ UM.atE crvX 5 5 = 0 := by decide
theorem crv_b : UM.atN crvX 15 5 = 110 ∧ UM.atE crvX 15 5 = 0 := by decide
theorem crv_c : UM.atN crvX 30 5 = 121 ∧ UM.atE crvX 30 5 = 0 := by decide
theorem crv_f : UM.fillR crvX 5 = crvY ∧ UM.tickE crvX 5 = 0 := by decide
theorem small_pt {a b : Int} {c : Bool} (h : (0 ≤ a ∧ a ≤ 1000) ∧ 0 ≤ b ∧ b ≤ 1000) : ptQ ⟨a, b, c⟩ := ⟨⟨by show _ ≤ a; omega, by show a ≤ _; omega⟩, ⟨by show _ ≤ b; omega, by show b ≤ _; omega⟩⟩
theorem crv_lit (W : World) : Pts (W.alloc (.cells #[.int .i64 10, .int .i64 100, .bool true, .int .i64 15, .int .i64 0, .bool false, .int .i64 20, .int .i64 121, .bool true] 44)) (some ⟨W.heap.size, 0, none⟩) crvX := by
  obtain ⟨A', cap, e, hr, _⟩ := OwnR.recs (OwnR.lit W W.heap.size 44 3 (crvX.map ptV) (by simp [crvX, ptV]) (Nat.le_refl _) (by simp [crvX, maxLen]))
  injection e with e
  subst e
  refine ⟨hr, ?_⟩
  intro x hx
  simp only [crvX, List.mem_cons, List.not_mem_nil, or_false] at hx
  rcases hx with rfl | rfl | rfl <;> exact small_pt (by decide)
set_option maxHeartbeats 8000000 in
set_option maxRecDepth 100000 in
theorem goes19_any (w : World) : Calls Try.prog 9 #[] w fun e w' => e = .returned (.bool true) ∧ Below w.heap.size w w' := by
  have gl := pt_guard
  have V1 := Lib.hid (fun ww h => uat_any (some ⟨w.heap.size, 0, none⟩) crvX 3 3 rfl 5 5 ww h)
  rw [crv_a.1, crv_a.2] at V1
  have V2 := Lib.hid (fun ww h => uat_any (some ⟨w.heap.size, 0, none⟩) crvX 3 3 rfl 15 5 ww h)
  rw [crv_b.1, crv_b.2] at V2
  have V3 := Lib.hid (fun ww h => uat_any (some ⟨w.heap.size, 0, none⟩) crvX 3 3 rfl 30 5 ww h)
  rw [crv_c.1, crv_c.2] at V3
  have F := Lib.hid (fun ww h => ufill_any (some ⟨w.heap.size, 0, none⟩) crvX 3 3 rfl 5 ww h)
  rw [crv_f.1, crv_f.2] at F
  have HT := Lib.hid (crv_lit w)
  have HB0 := Lib.hid (below_al (Below.refl w.heap.size w) (.cells #[.int .i64 10, .int .i64 100, .bool true, .int .i64 15, .int .i64 0, .bool false, .int .i64 20, .int .i64 121, .bool true] 44))
  have E1 : ∀ ww, (Op.equalIn 10000 44 (ptA ⟨15, 110, true⟩) (ptA ⟨15, 110, true⟩)).run Try.prog ww = .ok true ww := fun ww => by rw [pt_in, pteq_is, decide_eq_true rfl]
  generalize crvX = lx at *
  go_enter Try.func9, Try.ntmps9
  go_wp2_with fail
  refine (V1.out _ HT.out).mono ?_
  rintro e w1 ⟨rfl, b1⟩
  have HB1 := Lib.hid (HB0.out.trans (b1.mono HB0.out.size))
  have HT1 := Lib.hid (HT.out.below b1)
  clear b1
  go_wp2_with fail
  refine (V2.out _ HT1.out).mono ?_
  rintro e w2 ⟨rfl, b2⟩
  have HB2 := Lib.hid (HB1.out.trans (b2.mono HB1.out.size))
  have HT2 := Lib.hid (HT1.out.below b2)
  clear b2
  go_wp2_with fail
  refine (V3.out _ HT2.out).mono ?_
  rintro e w3 ⟨rfl, b3⟩
  have HB3 := Lib.hid (HB2.out.trans (b3.mono HB2.out.size))
  have HT3 := Lib.hid (HT2.out.below b3)
  clear b3
  go_wp2_with fail
  refine (F.out _ HT3.out).mono ?_
  rintro e w4 ⟨v, rfl, hO, b4⟩
  have HB4 := Lib.hid (HB3.out.trans (b4.mono HB3.out.size))
  obtain ⟨gg, cc, rfl⟩ : ∃ gg cc, v = .slice (some ⟨gg, 0, none⟩) 3 cc := by
    rcases hO.form with ⟨_, e⟩ | ⟨gg, cc, e, _⟩
    · cases e
    · exact ⟨gg, cc, e⟩
  have o0 := hO.cell (i := 1) (j := 0) (by decide) (by decide)
  have o1 := hO.cell (i := 1) (j := 1) (by decide) (by decide)
  have o2 := hO.cell (i := 1) (j := 2) (by decide) (by decide)
  simp only [crvY, List.map_cons, List.map_nil, ptV, List.getD_cons_succ, List.getD_cons_zero, List.getElem?_cons_zero, List.getElem?_cons_succ, Nat.one_mul, Nat.add_zero, Nat.reduceAdd] at o0 o1 o2
  clear b4 hO V1 V2 V3 F HT HT1 HT2 HT3 HB0 HB1 HB2 HB3
  go_wp2_with fail
  go_ret
  exact ⟨rfl, HB4.out⟩
end Go.Proofs.Ytagmknahmkniaaa
